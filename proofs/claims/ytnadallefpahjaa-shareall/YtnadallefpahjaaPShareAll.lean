
/-
  The statement ShareAll: what any node sends, taken one after another by another one by the document's own taking, leaves that one a node that may be; where all fits, each has then what the other one has.
-/
import Derived.Test.YtnadallefpahjaaRows
import Derived.Test.YtnadallefpahjaaOpen
import Derived.Test.YtnadallefpahjaaShareLaw
import Derived.Test.YtnadallefpahjaaShareMath
import Derived.Test.YtnadallefpahjaaSteps
import Derived.Test.YtnadallefpahjaaNodeTk
import Derived.Test.YtnadallefpahjaaOpenN
import Derived.Deep.RegionLawGrows
import Derived.Deep.DeepCutAuto
import Derived.Deep.CutRange
import Derived.Deep.CutBlock
namespace Go.Proofs.Ytnadallefpahjaa.shareAll
open Go.ChangeShapes Go.WideShapes Go.ChangeAt Go.RowKit
set_option linter.unusedVariables false

/-! ### The walk -/
/-- What the call leaves: a node in a new variable. -/
def TookN (i : Int) (ps : List Pe) (is : List Int) (ts : List It) (ls : List Te) (v : Value) (w wx : World) : Prop := ∃ (n : Nat) (p q r s : Value), v = .pointer (some ⟨n, 0, none⟩) ∧ w.heap.size ≤ n ∧ Box wx n #[.bool true, .int .i64 i, p, q, r, s] ∧
  NdAt w.heap.size wx.heap.size wx p q r s ps is ts ls ∧ Below w.heap.size w wx

theorem tk_at {lo hi : Nat} {w : World} {p q r s : Value} {ps : List Pe} {is : List Int} {ts : List It} {ls : List Te} (i : Int) (h : NdAt lo hi w p q r s ps is ts ls) (hh : hi ≤ w.heap.size)
    (h1 : ps.length * 16 ≤ 140737488351232) (h2 : is.length * 8 ≤ 140737488351232) (h3 : ts.length * 40 ≤ 140737488351232) (h4 : ls.length * 24 ≤ 140737488351232) (k cc uu x : Int) (y : Bool) (hn : ndB ⟨true, i, ps, is, ts, ls⟩ = true) (hx : itB ⟨k, cc, uu, x, y⟩ = true) {L : List It} (hL : ntL ts ⟨k, cc, uu, x, y⟩ = L) :
    Calls Try.prog 23 #[.agg #[.bool true, .int .i64 i, p, q, r, s], .agg #[.int .i64 k, .int .i64 cc, .int .i64 uu, .int .i64 x, .bool y]] w fun e w' => ∃ a5 c5 a6 c6 a7 c7 a8 c8, e = .returned (.tuple #[.agg #[.bool true, .int .i64 i, .slice a5 ps.length c5, .slice a6 is.length c6, .slice a7 L.length c7, .slice a8 ls.length c8], .int .i64 0]) ∧
      NdAt w.heap.size w'.heap.size w' (.slice a5 ps.length c5) (.slice a6 is.length c6) (.slice a7 L.length c7) (.slice a8 ls.length c8) ps is L ls ∧ Below w.heap.size w w' := by
  subst hL
  refine (rTake_up i h hh h1 h2 h3 h4 k cc uu x y hn hx).mono ?_
  rintro e w1 ⟨v, rfl, N, hb⟩
  obtain ⟨p1, q1, r1, s1, rfl, M⟩ := N
  obtain ⟨a5, c5, a6, c6, a7, c7, a8, c8, rfl, rfl, rfl, rfl⟩ := id M.shape
  exact ⟨_, _, _, _, _, _, _, _, rfl, M, hb⟩

theorem tk_next (us : List It) (L : List Mg) {m : Nat} (hm : m < L.length) : tkL us ((L.take (m + 1)).map Mg.t) = ntL (tkL us ((L.take m).map Mg.t)) L[m].t := by
  rw [List.take_add_one, List.getElem?_eq_getElem hm, List.map_append]
  exact tkL_snoc _ _ _
theorem tk_step (us ts : List It) {m : Nat} (hm : m < ts.length) : tkL us (ts.take (m + 1)) = ntL (tkL us (ts.take m)) ts[m] := by
  rw [List.take_add_one, List.getElem?_eq_getElem hm]
  exact tkL_snoc _ _ _
theorem tk_nd {i : Int} {ps : List Pe} {is : List Int} {us : List It} {ls : List Te} (h : ndB ⟨true, i, ps, is, us, ls⟩ = true) (l : List It) : ndB ⟨true, i, ps, is, tkL us l, ls⟩ = true := by
  rw [ndB_up] at h ⊢
  simp only [Bool.and_eq_true] at h ⊢
  exact ⟨h.1, tkL_st h.2.1, h.2.2⟩
theorem tk_len {i : Int} {ps : List Pe} {is : List Int} {us : List It} {ls : List Te} (h : ndB ⟨true, i, ps, is, us, ls⟩ = true) : ps.length ≤ 16 ∧ is.length ≤ 16 ∧ us.length ≤ 16 ∧ ls.length ≤ 64 := by
  rw [ndB_up] at h
  simp only [Bool.and_eq_true] at h
  have h1 := vw_len h.1
  have h2 := (vwB_iff.1 h.1).2.2.1
  have h3 := (stB_iff.1 h.2.1).2.2
  have h4 : ls.length ≤ 64 := by have := h.2.2; simp only [lgB, Bool.and_eq_true, decide_eq_true_eq] at this; omega
  omega
theorem shL_t {i : Int} {ps : List Pe} {is : List Int} {ts : List It} (h : vwB i ps is = true) (hv : Val ts) (hne : 0 < (shL i ps is ts).length) : (shL i ps is ts).map Mg.t = ts := by
  by_cases hp : ps = []
  · subst hp
    rw [shL_none h hv] at hne
    cases hne
  · rw [shL_map h hp hv, List.map_map]
    exact List.map_id'' (fun _ => rfl) ts

set_option maxRecDepth 20000 in
set_option maxHeartbeats 16000000 in
theorem walk (v0 : Value) (x0 : NdO) (v1 : Value) (x1 : NdO) (w : World) (r0 : v0 = .agg #[.bool x0.up, .int .i64 x0.v.i, x0.v.p, x0.v.q, x0.r, x0.s]) (h0 : NdAt 0 w.heap.size w x0.v.p x0.v.q x0.r x0.s x0.v.ps x0.v.is x0.ts x0.ls) (s0 : x0.v.ps.length * 16 ≤ 140737488351232) (t0 : x0.v.is.length * 8 ≤ 140737488351232) (u0 : x0.ts.length * 40 ≤ 140737488351232) (y0 : x0.ls.length * 24 ≤ 140737488351232) (w0 : (Lit.int .i64 x0.v.i).wf = true) (i0 : ∀ y ∈ x0.v.ps, PeW y) (j0 : ∀ y ∈ x0.v.is, (Lit.int .i64 y).wf = true) (m0 : ∀ y ∈ x0.ts, ItW y) (n0 : ∀ y ∈ x0.ls, TeW y) (r1 : v1 = .agg #[.bool x1.up, .int .i64 x1.v.i, x1.v.p, x1.v.q, x1.r, x1.s]) (h1 : NdAt 0 w.heap.size w x1.v.p x1.v.q x1.r x1.s x1.v.ps x1.v.is x1.ts x1.ls) (s1 : x1.v.ps.length * 16 ≤ 140737488351232) (t1 : x1.v.is.length * 8 ≤ 140737488351232) (u1 : x1.ts.length * 40 ≤ 140737488351232) (y1 : x1.ls.length * 24 ≤ 140737488351232) (w1 : (Lit.int .i64 x1.v.i).wf = true) (i1 : ∀ y ∈ x1.v.ps, PeW y) (j1 : ∀ y ∈ x1.v.is, (Lit.int .i64 y).wf = true) (m1 : ∀ y ∈ x1.ts, ItW y) (n1 : ∀ y ∈ x1.ls, TeW y) :
    Calls Try.prog 7 #[v0, v1] w fun e w' => e = .returned (.bool true) ∧ Below w.heap.size w w' := by
  obtain ⟨up, ⟨ni, ps, is, p, q⟩, ts, ls, r, s⟩ := x0
  obtain ⟨vp, ⟨nj, qs, js, p', q'⟩, us, ks, r', s'⟩ := x1
  dsimp only at r0 h0 s0 t0 u0 y0 r1 h1 s1 t1 u1 y1
  subst r0 r1
  clear w0 i0 j0 m0 n0 w1 i1 j1 m1 n1
  have NX := toHid (fun (W : World) (hb : Below w.heap.size w W) => h0.below hb (Nat.le_refl _))
  have NY := toHid (fun (W : World) (hb : Below w.heap.size w W) => h1.below hb (Nat.le_refl _))
  have HMY := toHid (fun (W : World) (hb : Below w.heap.size w W) => rNodeMay_any vp nj (h1.below hb (Nat.le_refl _)) hb.size s1 t1 u1 y1)
  have H2 := toHid (fun (W : World) (hb : Below w.heap.size w W) => sOf_any up ni (h0.below hb (Nat.le_refl _)) hb.size)
  obtain ⟨a, c, a', c', a2, c2, a3, c3, rfl, rfl, rfl, rfl⟩ := h0.shape
  obtain ⟨b, d, b', d', b2, d2, b3, d3, rfl, rfl, rfl, rfl⟩ := h1.shape
  have BX := toHid ((Box.new w #[.bool up, .int .i64 ni, .slice a ps.length c, .slice a' is.length c', .slice a2 ts.length c2, .slice a3 ls.length c3] 29).alloc (.cells #[.bool vp, .int .i64 nj, .slice b qs.length d, .slice b' js.length d', .slice b2 us.length d2, .slice b3 ks.length d3] 29))
  have BY := toHid (Box.new1 w (.cells #[.bool up, .int .i64 ni, .slice a ps.length c, .slice a' is.length c', .slice a2 ts.length c2, .slice a3 ls.length c3] 29) #[.bool vp, .int .i64 nj, .slice b qs.length d, .slice b' js.length d', .slice b2 us.length d2, .slice b3 ks.length d3] 29)
  have hB := toHid (((Below.refl _ w).onA (.cells #[.bool up, .int .i64 ni, .slice a ps.length c, .slice a' is.length c', .slice a2 ts.length c2, .slice a3 ls.length c3] 29)).onA (.cells #[.bool vp, .int .i64 nj, .slice b qs.length d, .slice b' js.length d', .slice b2 us.length d2, .slice b3 ks.length d3] 29))
  clear h0 s0 t0 u0 y0 h1 s1 t1 u1 y1
  go_enter Try.func7, Try.ntmps7
  go_upto_region 1 with (fail)
  generalize (w.alloc (.cells #[.bool up, .int .i64 ni, .slice a ps.length c, .slice a' is.length c', .slice a2 ts.length c2, .slice a3 ls.length c3] 29)).alloc (.cells #[.bool vp, .int .i64 nj, .slice b qs.length d, .slice b' js.length d', .slice b2 us.length d2, .slice b3 ks.length d3] 29) = wA at BX BY hB ⊢
  go_upto_region 3 with (go_at_call 16; refine (awake18_any _).mono ?_; rintro e wB ⟨rfl, hb1⟩)
  replace BX := toHid (BX.out.below hb1)
  replace BY := toHid (BY.out.below hb1)
  replace hB := toHid (hB.out.on hb1)
  clear hb1
  obtain ⟨x1, x2, x3⟩ := BX.out
  cases hn : (up && ndB ⟨up, ni, ps, is, ts, ls⟩) with
  | false =>
    rw [hn] at H2
    clear hn HMY NX NY
    go_wp2_with (first
      | (go_at_call 10; refine (H2.out _ hB.out).mono ?_; rintro e w2 ⟨v, rfl, O, h2⟩
         obtain ⟨v1, v2, rfl⟩ := O.cap
         have k2 := toHid (hB.out.on h2)
         clear h2 O)
      | (go_at_call 13; refine (num_any _ _).mono ?_; rintro e w' ⟨rfl, hw'⟩; subst w'))
    go_ret
    exact ⟨rfl, k2.out⟩
  | true =>
    rw [hn] at H2
    simp only [Bool.and_eq_true] at hn
    obtain ⟨rfl, hnx⟩ := hn
    simp only [if_true] at H2
    go_upto_region 4 with (go_at_call 10; refine (H2.out _ hB.out).mono ?_; rintro e w2 ⟨v, rfl, O, h2⟩
                           obtain ⟨v1, v2, rfl⟩ := O.cap
                           have k2 := toHid (hB.out.on h2)
                           have RL := toHid (O.row.wide (Nat.zero_le _) (Nat.le_refl _))
                           replace BX := toHid (BX.out.below h2)
                           replace BY := toHid (BY.out.below h2)
                           clear h2 O)
    clear x1 x2 x3 H2
    obtain ⟨x1, x2, x3⟩ := BY.out
    by_cases hm : (vp && ndB ⟨vp, nj, qs, js, us, ks⟩) = false
    · generalize ndB ⟨vp, nj, qs, js, us, ks⟩ = bq at hm HMY
      clear NX NY hnx RL
      cases bq with
      | false =>
        clear hm
        go_wp2_with (first
          | (go_at_call 13; refine (num_any _ _).mono ?_; rintro e w' ⟨rfl, hw'⟩; subst w')
          | (go_at_call 18; refine (HMY.out _ k2.out).mono ?_; rintro e w3 ⟨rfl, h3⟩
             have k3 := toHid (k2.out.on h3)
             clear h3))
        go_ret
        exact ⟨rfl, k3.out⟩
      | true =>
        obtain rfl : vp = false := by simpa using hm
        clear hm
        go_wp2_with (first
          | (go_at_call 13; refine (num_any _ _).mono ?_; rintro e w' ⟨rfl, hw'⟩; subst w')
          | (go_at_call 18; refine (HMY.out _ k2.out).mono ?_; rintro e w3 ⟨rfl, h3⟩
             have k3 := toHid (k2.out.on h3)
             have BY3 := toHid (BY.out.below h3)
             clear h3 x1 x2 x3
             obtain ⟨x1, x2, x3⟩ := BY3.out))
        go_ret
        exact ⟨rfl, k3.out⟩
    · have hm2 : (vp && ndB ⟨vp, nj, qs, js, us, ks⟩) = true := by simpa using hm
      clear hm
      simp only [Bool.and_eq_true] at hm2
      obtain ⟨rfl, hny⟩ := hm2
      rw [hny] at HMY
      go_upto_region 6 with (first
        | (go_at_call 13; refine (num_any _ _).mono ?_; rintro e w' ⟨rfl, hw'⟩; subst w')
        | (go_at_call 18; refine (HMY.out _ k2.out).mono ?_; rintro e w3 ⟨rfl, h3⟩
           have k3 := toHid (k2.out.on h3)
           replace BX := toHid (BX.out.below h3)
           replace BY := toHid (BY.out.below h3)
           replace RL := toHid ((RL.out.below h3 (Nat.le_refl _)).wide (Nat.le_refl _) h3.size)
           clear h3 k2 x1 x2 x3
           obtain ⟨x1, x2, x3⟩ := BY.out))
      clear HMY
      go_upto_block 0 with (fail)
      have hlx := tk_len hnx
      have hly := tk_len hny
      obtain ⟨hvx, hsx⟩ : vwB ni ps is = true ∧ stB ts = true := by
        have := hnx
        rw [ndB_up] at this
        simp only [Bool.and_eq_true] at this
        exact ⟨this.1, this.2.1⟩
      have hval := (stB_iff.1 hsx).1
      have hsy : stB us = true := by
        have := hny
        rw [ndB_up] at this
        simp only [Bool.and_eq_true] at this
        exact this.2.1
      have hLn := shL_len ni ps is ts
      have hLt := toHid (fun hne : 0 < (shL ni ps is ts).length => shL_t hvx hval hne)
      have hLv := toHid (fun (m : Nat) (hm : m < (shL ni ps is ts).length) => show itB (shL ni ps is ts)[m].t = true from by
        obtain ⟨z, hz, e, -⟩ := sh_at hm
        rw [e]
        exact hval z hz)
      have hLis := toHid (shL_is ni ps is ts)
      have hL16 : (shL ni ps is ts).length ≤ 16 := by omega
      generalize shL ni ps is ts = L at RL hLt hLv hLis hL16 ⊢
      have hlx' := toHid hlx
      obtain ⟨l1, l2, l3, l4⟩ := hly
      have hnx0 := toHid hnx
      clear hnx
      replace hny := toHid hny
      replace hsx := toHid hsx
      replace hsy := toHid hsy
      replace hval := toHid hval
      clear hvx hLn hlx x1 x2 x3
      have BZ := toHid (Box.new w3 #[.bool true, .int .i64 nj, .slice b qs.length d, .slice b' js.length d', .slice b2 us.length d2, .slice b3 ks.length d3] 29)
      have NZ : Hid (NdAt 0 (w3.alloc (.cells #[.bool true, .int .i64 nj, .slice b qs.length d, .slice b' js.length d', .slice b2 us.length d2, .slice b3 ks.length d3] 29)).heap.size (w3.alloc (.cells #[.bool true, .int .i64 nj, .slice b qs.length d, .slice b' js.length d', .slice b2 us.length d2, .slice b3 ks.length d3] 29)) _ _ _ _ qs js us ks) := toHid (((NY.out _ (k3.out.onA (.cells #[.bool true, .int .i64 nj, .slice b qs.length d, .slice b' js.length d', .slice b2 us.length d2, .slice b3 ks.length d3] 29)))).wide (Nat.le_refl _) (k3.out.onA (.cells #[.bool true, .int .i64 nj, .slice b qs.length d, .slice b' js.length d', .slice b2 us.length d2, .slice b3 ks.length d3] 29)).size)
      have kz := toHid ((Below.refl w3.heap.size w3).onA (.cells #[.bool true, .int .i64 nj, .slice b qs.length d, .slice b' js.length d', .slice b2 us.length d2, .slice b3 ks.length d3] 29))
      have e3 := toHid k3.out.size
      generalize w3.alloc (.cells #[.bool true, .int .i64 nj, .slice b qs.length d, .slice b' js.length d', .slice b2 us.length d2, .slice b3 ks.length d3] 29) = W0 at BZ NZ kz ⊢
      go_wp2
      go_loopw [8] (fun j wr => ∃ (m : Nat) (P Q R S : Value), m ≤ L.length ∧ j = .int .i64 m ∧ Hid (Box wr w3.heap.size #[.bool true, .int .i64 nj, P, Q, R, S]) ∧ Hid (NdAt 0 wr.heap.size wr P Q R S qs js (tkL us ((L.take m).map Mg.t)) ks) ∧ Hid (Below w3.heap.size w3 wr)) (fun j _ => L.length - (intOf j).toNat)
      case atStart => exact ⟨0, _, _, _, _, Nat.zero_le _, rfl, BZ, NZ, kz⟩
      case round =>
        obtain ⟨m, P, Q, R, S, hm, rfl, BZr, NZr, kr⟩ := hrel
        by_cases hlt : m < L.length
        · have hlt' : (m : Int) < (L.length : Int) := by omega
          have hm0 : 0 ≤ (m : Int) := by omega
          obtain ⟨p3, c3', ev, hp3⟩ := (RL.out.below kr.out (Nat.le_refl _)).sm hLis.out
          obtain ⟨bb, off, rfl, -, hbb, hc⟩ := hp3 (by omega)
          cases ev
          have cz := hc m hlt
          have hzv := hLv.out m hlt
          have hst := (tk_next us L hlt).symm
          obtain ⟨z, hz⟩ : ∃ z, L[m].t = z := ⟨_, rfl⟩
          obtain ⟨-, -, -, -, -, -, -, ⟨f5, f6, f7, f8, f9⟩, -⟩ := cz
          rw [hz] at f5 f6 f7 f8 f9 hzv hst
          obtain ⟨zk, zc, zu, zx, zg⟩ := z
          dsimp only at f5 f6 f7 f8 f9
          have CZ := toHid (And.intro f5 (And.intro f6 (And.intro f7 (And.intro f8 f9))))
          have hbw := toHid (Nat.lt_of_lt_of_le hbb kr.out.size)
          clear hc hp3 hz f5 f6 f7 f8 f9 hbb
          have hnd := tk_nd hny.out (((L.take m).map Mg.t))
          have hsl := (tk_len hnd).2.2.1
          generalize hcur : tkL us ((L.take m).map Mg.t) = C at NZr hnd hsl hst
          obtain ⟨a5, c5, a6, c6, a7, c7, a8, c8, rfl, rfl, rfl, rfl⟩ := id NZr.out.shape
          generalize hnx : tkL us ((L.take (m + 1)).map Mg.t) = D at hst
          have HTk := toHid (fun (W : World) (hb : Below wr.heap.size wr W) => tk_at nj (NZr.out.below hb (Nat.le_refl _)) hb.size (by omega) (by omega) (by omega) (by omega) zk zc zu zx zg hnd hzv hst)
          clear hnd hzv hst hcur NZr hsl
          have hzw := toHid BZr.out.1
          go_wp2
          skip
          go_cut [9, 10] from 50 to 59 (fun v9 v10 wx => v10 = .int .i64 0 ∧ TookN nj qs js D ks v9 wr wx)
          case first =>
            obtain ⟨x1, x2, x3⟩ := BZr.out
            have BN := toHid (Box.new wr #[.bool false, .int .i64 0, .slice none 0 0, .slice none 0 0, .slice none 0 0, .slice none 0 0] 29)
            have kk := toHid (Below.refl wr.heap.size wr)
            obtain ⟨f5, f6, f7, f8, f9⟩ := CZ.out
            have hbw' := hbw.out
            go_wp2
            go_region_law (refine step_call rfl (F := 23) (args := #[.agg #[.bool true, .int .i64 nj, .slice a5 qs.length c5, .slice a6 js.length c6, .slice a7 C.length c7, .slice a8 ks.length c8], .agg #[.int .i64 zk, .int .i64 zc, .int .i64 zu, .int .i64 zx, .bool zg]]) (by first | (go_simp; done) | (go_simp; rfl)) (HTk.out _ (by first | exact kk.out.onD 1 | exact (kk.out.onD 1).onA _ | exact (kk.out.onA _).onD 1)) ?_
                           rintro e w5 ⟨b5, d5, b6, d6, b7, d7, b8, d8, rfl, N5, g5⟩
                           have hsz5 : wr.heap.size ≤ w5.heap.size := by first | exact g5.size | exact Nat.le_trans (by simp) g5.size
                           have kk5 : Below wr.heap.size wr w5 := by first | exact (kk.out.onD 1).on g5 | exact ((kk.out.onD 1).onA _).on g5 | exact ((kk.out.onA _).onD 1).on g5
                           first
                             | (have hU : Box w5 wr.heap.size #[.bool false, .int .i64 0, .slice none 0 0, .slice none 0 0, .slice none 0 0, .slice none 0 0] := (BN.out.drewN 1).below g5
                                obtain ⟨u1, u2, u3⟩ := id hU
                                have hV : wr.heap.size < w5.heap.size := hU.1
                                have N6 := N5.wide (lo' := wr.heap.size + 1) (by simp) (Nat.le_refl _))
                             | (have hU : Box w5 wr.heap.size #[.bool false, .int .i64 0, .slice none 0 0, .slice none 0 0, .slice none 0 0, .slice none 0 0] := (Box.newAt _ _ (by simp)).below g5
                                obtain ⟨u1, u2, u3⟩ := id hU
                                have hV : wr.heap.size < w5.heap.size := hU.1
                                have N6 := N5.wide (lo' := wr.heap.size + 1) (by simp) (Nat.le_refl _))
                             | skip
                           refine ⟨_, rfl, ?_⟩)
            all_goals
              go_wp2
              go_meet
              first
                | (have S6 := hU.set6 (.bool true) (.int .i64 nj) (.slice b5 qs.length d5) (.slice b6 js.length d6) (.slice b7 D.length d7) (.slice b8 ks.length d8)
                   exact ⟨rfl, wr.heap.size, _, _, _, _, rfl, Nat.le_refl _, S6.1, (N6.only S6.2 (.inr (Nat.le_refl _))).wide (Nat.le_succ _) (Nat.le_of_eq S6.2.size.symm), kk5.trans S6.2.below⟩)
                | exact ⟨rfl, w5.heap.size, _, _, _, _, rfl, hsz5, Box.new w5 _ _, ((N5.wide (lo' := wr.heap.size) (by simp) (Nat.le_refl _)).alloc _).wide (Nat.le_refl _) (by simp), kk5.onA _⟩
          case rest =>
            obtain ⟨rfl, n, P', Q', R', S', rfl, hn9, BN, NN9, kk⟩ := hcut
            obtain ⟨b5, d5, b6, d6, b7, d7, b8, d8, rfl, rfl, rfl, rfl⟩ := id NN9.shape
            have BZ2 := BZr.out.below kk
            have hz8 := hzw.out
            have hne : ¬ n = w3.heap.size := by omega
            have hne2 : ¬ w3.heap.size = n := by omega
            have S6 := BZ2.set6 (.bool true) (.int .i64 nj) (.slice b5 qs.length d5) (.slice b6 js.length d6) (.slice b7 D.length d7) (.slice b8 ks.length d8)
            have hF := toHid (show _ ∧ _ ∧ _ from ⟨S6.1, ((NN9.only S6.2 (.inr hz8)).wide (Nat.zero_le _) (Nat.le_of_eq S6.2.size.symm)), (kr.out.trans (kk.mono (Nat.le_of_lt hz8))).trans S6.2.below⟩)
            replace hnx := toHid hnx
            obtain ⟨x1, x2, x3⟩ := BN
            obtain ⟨y1, y2, y3⟩ := BZ2
            clear S6 NN9 kk hn9 CZ HTk
            go_wp2
            go_roundw
            case rel => exact ⟨m + 1, _, _, _, _, by omega, by go_num, hF.out.1, by rw [hnx.out]; exact hF.out.2.1, hF.out.2.2⟩
            case measure => simp [intOf]; omega
        · obtain rfl : m = L.length := by omega
          have hlt' : ¬ (L.length : Int) < (L.length : Int) := by omega
          rw [List.take_length] at NZr
          obtain ⟨WL, hWL⟩ : ∃ W, W = wr := ⟨_, rfl⟩
          subst hWL
          have BZ9 := toHid BZr.out
          have NZ9 := toHid NZr.out
          obtain ⟨g5, e5, g6, e6, g7, e7, g8, e8, rfl, rfl, rfl, rfl⟩ := id NZ9.out.shape
          have hnd := tk_nd hny.out (L.map Mg.t)
          have hl4 := tk_len hnd
          have hl5 := hlx'.out
          have HMZ := toHid (rNodeMay_any true nj NZ9.out (Nat.le_refl _) (by omega) (by omega) (by omega) (by omega))
          rw [hnd] at HMZ
          have kx := toHid (k3.out.trans (kr.out.mono e3.out))
          replace BX := toHid (BX.out.below kr.out)
          replace BY := toHid (BY.out.below kr.out)
          have ex := toHid (Nat.le_trans e3.out kr.out.size)
          clear hnd hl4 kr BZr NZr
          obtain ⟨x1, x2, x3⟩ := BX.out
          obtain ⟨y1, y2, y3⟩ := BY.out
          obtain ⟨z1, z2, z3⟩ := BZ9.out
          by_cases hz : L.length = 0
          · have hz1 : ((L.length : Int) == 0) = true := by rw [hz]; rfl
            have hz2 : (L.length : Int) = 0 := by omega
            go_wp2_with (go_at_call 18; refine HMZ.out.mono ?_; rintro e w9 ⟨rfl, h9⟩)
            go_ret
            exact ⟨rfl, kx.out.on h9⟩
          · have hz1 : ((L.length : Int) == 0) = false := beq_eq_false_iff_ne.2 (by omega)
            have hz2 : ¬ (L.length : Int) = 0 := by omega
            have hL0 : 0 < L.length := by omega
            by_cases hs : 16 < ts.length + us.length
            · have hs1 : (16 : Int) < (ts.length : Int) + (us.length : Int) := by omega
              have hs2 : decide ((16 : Int) < (ts.length : Int) + (us.length : Int)) = true := decide_eq_true hs1
              go_wp2_with (go_at_call 18; refine HMZ.out.mono ?_; rintro e w9 ⟨rfl, h9⟩)
              go_ret
              exact ⟨rfl, kx.out.on h9⟩
            · have hsum : ts.length + us.length ≤ 16 := by omega
              have hs1 : ¬ (16 : Int) < (ts.length : Int) + (us.length : Int) := by omega
              have hs2 : decide ((16 : Int) < (ts.length : Int) + (us.length : Int)) = false := decide_eq_false hs1
              clear HMZ
              go_upto_region 17 with (fail)
              clear x1 x2 x3 y1 y2 y3 z1 z2 z3 hs hs1 hs2 hz hz1 hz2 hlt' hm hlt
              obtain ⟨l1, l2, l3, l4⟩ := hl5
              have BW := toHid (Box.new WL #[.bool true, .int .i64 ni, .slice a ps.length c, .slice a' is.length c', .slice a2 ts.length c2, .slice a3 ls.length c3] 29)
              have NW : Hid (NdAt 0 (WL.alloc (.cells #[.bool true, .int .i64 ni, .slice a ps.length c, .slice a' is.length c', .slice a2 ts.length c2, .slice a3 ls.length c3] 29)).heap.size (WL.alloc (.cells #[.bool true, .int .i64 ni, .slice a ps.length c, .slice a' is.length c', .slice a2 ts.length c2, .slice a3 ls.length c3] 29)) _ _ _ _ ps is ts ls) := toHid ((NX.out _ (kx.out.onA (.cells #[.bool true, .int .i64 ni, .slice a ps.length c, .slice a' is.length c', .slice a2 ts.length c2, .slice a3 ls.length c3] 29))).wide (Nat.le_refl _) (kx.out.onA (.cells #[.bool true, .int .i64 ni, .slice a ps.length c, .slice a' is.length c', .slice a2 ts.length c2, .slice a3 ls.length c3] 29)).size)
              have kw := toHid ((Below.refl WL.heap.size WL).onA (.cells #[.bool true, .int .i64 ni, .slice a ps.length c, .slice a' is.length c', .slice a2 ts.length c2, .slice a3 ls.length c3] 29))
              generalize (WL.alloc (.cells #[.bool true, .int .i64 ni, .slice a ps.length c, .slice a' is.length c', .slice a2 ts.length c2, .slice a3 ls.length c3] 29)) = W9 at BW NW kw ⊢
              go_wp2
              go_loopw [12] (fun j wr => ∃ (m : Nat) (P Q R S : Value), m ≤ us.length ∧ j = .int .i64 m ∧ Hid (Box wr WL.heap.size #[.bool true, .int .i64 ni, P, Q, R, S]) ∧ Hid (NdAt 0 wr.heap.size wr P Q R S ps is (tkL ts (us.take m)) ls) ∧ Hid (Below WL.heap.size WL wr)) (fun j _ => us.length - (intOf j).toNat)
              case atStart => exact ⟨0, _, _, _, _, Nat.zero_le _, rfl, BW, NW, kw⟩
              case round =>
                obtain ⟨m, P, Q, R, S, hm, rfl, BZr, NZr, kr⟩ := hrel
                by_cases hlt : m < us.length
                · have hlt' : (m : Int) < (us.length : Int) := by omega
                  have hm0 : 0 ≤ (m : Int) := by omega
                  obtain ⟨p3, c3', ev, -, hp3⟩ := ((NY.out _ (kx.out.trans (kr.out.mono ex.out)))).ts.its (kx.out.trans (kr.out.mono ex.out)).size
                  obtain ⟨bb, off, rfl, -, hbb, hc⟩ := hp3 (by omega)
                  cases ev
                  have cz := hc m hlt
                  rw [getD_in _ _ hlt] at cz
                  have hzv := (stB_iff.1 hsy.out).1 us[m] (List.getElem_mem hlt)
                  have hst := (tk_step ts us hlt).symm
                  obtain ⟨z, hz⟩ : ∃ z, us[m] = z := ⟨_, rfl⟩
                  rw [hz] at cz hzv hst
                  obtain ⟨zk, zc, zu, zx, zg⟩ := z
                  obtain ⟨f5, f6, f7, f8, f9⟩ := cz
                  dsimp only at f5 f6 f7 f8 f9
                  have CZ := toHid (And.intro f5 (And.intro f6 (And.intro f7 (And.intro f8 f9))))
                  have hbw := toHid hbb
                  have BYr := toHid (BY.out.below kr.out)
                  obtain ⟨o1, o2, o3⟩ := BYr.out
                  clear hc hp3 hz f5 f6 f7 f8 f9 hbb
                  have hnd := tk_nd hnx0.out ((us.take m))
                  have hsl := (tk_len hnd).2.2.1
                  generalize hcur : tkL ts (us.take m) = C at NZr hnd hsl hst
                  obtain ⟨a5, c5, a6, c6, a7, c7, a8, c8, rfl, rfl, rfl, rfl⟩ := id NZr.out.shape
                  generalize hnx : tkL ts (us.take (m + 1)) = D at hst
                  have HTk := toHid (fun (W : World) (hb : Below wr.heap.size wr W) => tk_at ni (NZr.out.below hb (Nat.le_refl _)) hb.size (by omega) (by omega) (by omega) (by omega) zk zc zu zx zg hnd hzv hst)
                  clear hnd hzv hst hcur NZr hsl
                  have hzw := toHid BZr.out.1
                  go_wp2
                  clear o1 o2 o3
                  go_cut [13, 14] from 87 to 95 (fun v13 v14 wx => v14 = .int .i64 0 ∧ TookN ni ps is D ls v13 wr wx)
                  case first =>
                    obtain ⟨x1, x2, x3⟩ := BZr.out
                    have BN := toHid (Box.new wr #[.bool false, .int .i64 0, .slice none 0 0, .slice none 0 0, .slice none 0 0, .slice none 0 0] 29)
                    have kk := toHid (Below.refl wr.heap.size wr)
                    obtain ⟨f5, f6, f7, f8, f9⟩ := CZ.out
                    have hbw' := hbw.out
                    obtain ⟨o1, o2, o3⟩ := BYr.out
                    go_wp2
                    go_region_law (refine step_call rfl (F := 23) (args := #[.agg #[.bool true, .int .i64 ni, .slice a5 ps.length c5, .slice a6 is.length c6, .slice a7 C.length c7, .slice a8 ls.length c8], .agg #[.int .i64 zk, .int .i64 zc, .int .i64 zu, .int .i64 zx, .bool zg]]) (by first | (go_simp; done) | (go_simp; rfl)) (HTk.out _ (by first | exact kk.out.onD 1 | exact (kk.out.onD 1).onA _ | exact (kk.out.onA _).onD 1)) ?_
                                   rintro e w5 ⟨b5, d5, b6, d6, b7, d7, b8, d8, rfl, N5, g5⟩
                                   have hsz5 : wr.heap.size ≤ w5.heap.size := by first | exact g5.size | exact Nat.le_trans (by simp) g5.size
                                   have kk5 : Below wr.heap.size wr w5 := by first | exact (kk.out.onD 1).on g5 | exact ((kk.out.onD 1).onA _).on g5 | exact ((kk.out.onA _).onD 1).on g5
                                   first
                                     | (have hU : Box w5 wr.heap.size #[.bool false, .int .i64 0, .slice none 0 0, .slice none 0 0, .slice none 0 0, .slice none 0 0] := (BN.out.drewN 1).below g5
                                        obtain ⟨u1, u2, u3⟩ := id hU
                                        have hV : wr.heap.size < w5.heap.size := hU.1
                                        have N6 := N5.wide (lo' := wr.heap.size + 1) (by simp) (Nat.le_refl _))
                                     | (have hU : Box w5 wr.heap.size #[.bool false, .int .i64 0, .slice none 0 0, .slice none 0 0, .slice none 0 0, .slice none 0 0] := (Box.newAt _ _ (by simp)).below g5
                                        obtain ⟨u1, u2, u3⟩ := id hU
                                        have hV : wr.heap.size < w5.heap.size := hU.1
                                        have N6 := N5.wide (lo' := wr.heap.size + 1) (by simp) (Nat.le_refl _))
                                     | skip
                                   refine ⟨_, rfl, ?_⟩)
                    all_goals
                      go_wp2
                      go_meet
                      first
                        | (have S6 := hU.set6 (.bool true) (.int .i64 ni) (.slice b5 ps.length d5) (.slice b6 is.length d6) (.slice b7 D.length d7) (.slice b8 ls.length d8)
                           exact ⟨rfl, wr.heap.size, _, _, _, _, rfl, Nat.le_refl _, S6.1, (N6.only S6.2 (.inr (Nat.le_refl _))).wide (Nat.le_succ _) (Nat.le_of_eq S6.2.size.symm), kk5.trans S6.2.below⟩)
                        | exact ⟨rfl, w5.heap.size, _, _, _, _, rfl, hsz5, Box.new w5 _ _, ((N5.wide (lo' := wr.heap.size) (by simp) (Nat.le_refl _)).alloc _).wide (Nat.le_refl _) (by simp), kk5.onA _⟩
                  case rest =>
                    obtain ⟨rfl, n, P', Q', R', S', rfl, hn9, BN, NN9, kk⟩ := hcut
                    obtain ⟨b5, d5, b6, d6, b7, d7, b8, d8, rfl, rfl, rfl, rfl⟩ := id NN9.shape
                    have BZ2 := BZr.out.below kk
                    have hz8 := hzw.out
                    have hne : ¬ n = WL.heap.size := by omega
                    have hne2 : ¬ WL.heap.size = n := by omega
                    have S6 := BZ2.set6 (.bool true) (.int .i64 ni) (.slice b5 ps.length d5) (.slice b6 is.length d6) (.slice b7 D.length d7) (.slice b8 ls.length d8)
                    have hF := toHid (show _ ∧ _ ∧ _ from ⟨S6.1, ((NN9.only S6.2 (.inr hz8)).wide (Nat.zero_le _) (Nat.le_of_eq S6.2.size.symm)), (kr.out.trans (kk.mono (Nat.le_of_lt hz8))).trans S6.2.below⟩)
                    replace hnx := toHid hnx
                    obtain ⟨x1, x2, x3⟩ := BN
                    obtain ⟨y1, y2, y3⟩ := BZ2
                    clear S6 NN9 kk hn9 CZ HTk
                    go_wp2
                    go_roundw
                    case rel => exact ⟨m + 1, _, _, _, _, by omega, by go_num, hF.out.1, by rw [hnx.out]; exact hF.out.2.1, hF.out.2.2⟩
                    case measure => simp [intOf]; omega
                · obtain rfl : m = us.length := by omega
                  have hlt' : ¬ (us.length : Int) < (us.length : Int) := by omega
                  rw [List.take_length] at NZr
                  have hEq : Hid (tkL us (L.map Mg.t) = tkL ts us) := toHid (by rw [hLt.out hL0]; exact tkL_both hsy.out hsx.out (by omega))
                  have BV := toHid (BZr.out)
                  have NV := NZr.out
                  rw [← hEq.out] at NV
                  have BZe := toHid (BZ9.out.below kr.out)
                  have NZe := toHid (NZ9.out.below kr.out (Nat.le_refl _))
                  obtain ⟨g5, e5, g6, e6, g7, e7, g8, e8, rfl, rfl, rfl, rfl⟩ := id NV.shape
                  obtain ⟨o1, o2, o3⟩ := BY.out.below (kr.out)
                  have TV := toHid NV.ts
                  have ke := toHid (kx.out.trans (kr.out.mono ex.out))
                  have kl := toHid kr.out.size
                  obtain ⟨x1, x2, x3⟩ := BZe.out
                  obtain ⟨y1, y2, y3⟩ := BV.out
                  clear NV hEq kr NZr BZr
                  go_wp2_with (first
                    | (go_at_call 24; refine (sameT_same NZe.out.ts TV.out).mono ?_; rintro e w6 ⟨rfl, h6⟩
                       replace ke := toHid (ke.out.on h6)
                       clear h6 x1 x2 x3 y1 y2 y3 o1 o2 o3)
                    | (go_at_call 21; refine (gNode_any _).mono ?_; rintro e w7 ⟨x, y, z, rfl, N7, h7⟩
                       clear N7)
                    | (rw [node_items _ _ _ _ _ _ _ ⟨_, _, _, rfl⟩]))
                  go_ret
                  exact ⟨rfl, ke.out.on h7⟩

/-! ### The row's step -/
set_option maxRecDepth 100000 in
theorem lifted (os : Os) (started : os.Started) (H : Type) (enc : TypeId × Value → H) :
    ReturnsInHanded {} Try.checked os 7 .any (Rows.shareAllSpec.pre6 enc Try.prog Try.f7 Rows.shareAllRow.domain false) (Rows.shareAllSpec.post enc Try.prog Try.f7 false true false false) := by
  refine returnsInHanded_of_change_sized (C := Try.checked) ownK started (by kernel_rfl) Try.func7
    (ChangeSpec.witness6 (enc := enc) (C := Try.checked) false ⟨#[], #[.agg #[.bool false, .int .i64 0, .slice none 0 0, .slice none 0 0, .slice none 0 0, .slice none 0 0], .agg #[.bool false, .int .i64 0, .slice none 0 0, .slice none 0 0, .slice none 0 0, .slice none 0 0]], []⟩ 8 (by kernel_rfl) (by kernel_rfl) (by kernel_rfl) (by kernel_rfl)) ?_
  intro W base args ds gs before hval0 hW hcnd hsz0 _
  have hsz : (DataW.weightsEach Try.prog (Try.f7.params.toList ++ Rows.shareAllSpec.plain.varTypes Try.prog) (ds ++ gs)).all (· ≤ reachBytes) = true := hsz0
  have hval : ∀ (j : Nat) t v, Try.f7.params[j]? = some t → args[j]? = some v → Value.okWide Try.prog W .any base t v := hval0
  have hW' := hW
  obtain ⟨p, q, hA0, hV, rfl, hfz, hnd⟩ := hW
  have hA : DataW.TrodAll enc Try.prog W 0 (fun _ => true) true Try.f7.params.toList args.toList ds p := hA0
  rw [Try.params7] at hA hval hsz
  obtain ⟨v0, vs0, d0, ds0, p0, q0, hargs, rfl, rfl, h0, r0⟩ := trodAll_cons hA
  obtain ⟨v1, vs1, d1, ds1, p1, q1, rfl, rfl, rfl, h1, r1⟩ := trodAll_cons r0
  obtain ⟨rfl, rfl, rfl⟩ := trodAll_nil r1
  obtain rfl : args = #[v0, v1] := by cases args; simp_all
  obtain ⟨rfl, rfl⟩ := trodVars_none hV
  clear r0 r1
  have k0 := h0
  have lt0 : ∀ x ∈ p0, x.block < W.heap.size := by obtain ⟨m, hm⟩ := k0; exact DataW.trod_lt m _ _ _ hm
  have z0 : ∀ n ∈ d0.weights Try.prog 29, n ≤ reachBytes := fun n hn => by simpa using List.all_eq_true.1 hsz _ (DataW.weights_mem_each (j := 0) rfl rfl n hn)
  have f0 : W.noneFrozen p0 := fun b off hm => hfz b off (by simp [hm])
  have k1 := h1
  have lt1 : ∀ x ∈ p1, x.block < W.heap.size := by obtain ⟨m, hm⟩ := k1; exact DataW.trod_lt m _ _ _ hm
  have z1 : ∀ n ∈ d1.weights Try.prog 29, n ≤ reachBytes := fun n hn => by simpa using List.all_eq_true.1 hsz _ (DataW.weights_mem_each (j := 1) rfl rfl n hn)
  have f1 : W.noneFrozen p1 := fun b off hm => hfz b off (by simp [hm])
  obtain ⟨x0, r0, h0, s0, t0, u0, y0, w0, i0, j0, m0, n0⟩ := open_node (hval 0 29 v0 rfl rfl) h0 f0 z0
  obtain ⟨x1, r1, h1, s1, t1, u1, y1, w1, i1, j1, m1, n1⟩ := open_node (hval 1 29 v1 rfl rfl) h1 f1 z1
  clear hA0 hval0
  refine (walk v0 x0 v1 x1 W r0 h0 s0 t0 u0 y0 w0 i0 j0 m0 n0 r1 h1 s1 t1 u1 y1 w1 i1 j1 m1 n1).mono fun e W' ⟨he, bel⟩ => ?_
  subst he
  exact ⟨_, rfl, _, _, _, [], _, [], hW', trodAll_mk1 (shut_bool Try.underlying4 _), (trodAll_cons_mk (Below.trod laidOut (by kernel_rfl) (of_decide_eq_true (by kernel_rfl)) k0 bel lt0) (trodAll_cons_mk (Below.trod laidOut (by kernel_rfl) (of_decide_eq_true (by kernel_rfl)) k1 bel lt1) trodAll_mk0)), rfl, bel.frame _, fun h => by cases h⟩

theorem over : Rows.shareAllRow.holds Try.pinned (OpenSpec.ofChange Rows.shareAllSpec) :=
  OpenClaim.holds_of_wide 7 Try.f7 rfl rfl rfl rfl rfl rfl rfl ⟨rfl, rfl, rfl, rfl, rfl⟩ rfl rfl rfl rfl rfl (by kernel_rfl) Try.func7 (by kernel_rfl)
    (of_decide_eq_true (by kernel_rfl)) (by unfold Func.isWrapper; first | (rw [if_pos (by decide +kernel)]; kernel_rfl) | (rw [if_neg (by decide +kernel)]; exact ⟨rfl, rfl⟩))
    (fun os started H enc _ => lifted os started H enc)

end Go.Proofs.Ytnadallefpahjaa.shareAll

namespace Go.Proofs.Ytnadallefpahjaa
/-- The statement, by its short name. -/
theorem shareAll_holds : Rows.ShareAllSaid := shareAll.over
#print axioms shareAll_holds
end Go.Proofs.Ytnadallefpahjaa
