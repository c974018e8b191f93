
/-
  The statement WriteNewer: at any node, key and value, what Put or Drop writes is newer than what was there, and the best of both by the document's own answer.
-/
import Derived.Test.YtgakfbdaiogflaaRows
import Derived.Test.YtgakfbdaiogflaaOpen
import Derived.Test.YtgakfbdaiogflaaWriteLaw
import Derived.Test.YtgakfbdaiogflaaWrMath
import Derived.Test.YtgakfbdaiogflaaOpenN
import Derived.Deep.DeepCutAuto
import Derived.Deep.CutRange
import Derived.Deep.CutBlock
namespace Go.Proofs.Ytgakfbdaiogflaa.writeNewer
open Go.ChangeShapes Go.WideShapes Go.ChangeAt Go.RowKit
set_option linter.unusedVariables false

/-! ### The walk -/
set_option maxHeartbeats 8000000 in
theorem walk (v0 : Value) (x0 : NdO) (a1 : Int) (a2 : Int) (a3 : Bool) (w : World) (r0 : v0 = .agg #[.bool x0.up, .int .i64 x0.v.i, x0.v.p, x0.v.q, x0.r, x0.s]) (h0 : NdAt 0 w.heap.size w x0.v.p x0.v.q x0.r x0.s x0.v.ps x0.v.is x0.ts x0.ls) (s0 : x0.v.ps.length * 16 ≤ 140737488351232) (t0 : x0.v.is.length * 8 ≤ 140737488351232) (u0 : x0.ts.length * 40 ≤ 140737488351232) (y0 : x0.ls.length * 24 ≤ 140737488351232) (w0 : (Lit.int .i64 x0.v.i).wf = true) (i0 : ∀ y ∈ x0.v.ps, PeW y) (j0 : ∀ y ∈ x0.v.is, (Lit.int .i64 y).wf = true) (m0 : ∀ y ∈ x0.ts, ItW y) (n0 : ∀ y ∈ x0.ls, TeW y) (w1 : (Lit.int .i64 a1).wf = true) (w2 : (Lit.int .i64 a2).wf = true) :
    Calls Try.prog 5 #[v0, .int .i64 a1, .int .i64 a2, .bool a3] w fun e w' => e = .returned (.bool true) ∧ Below w.heap.size w w' := by
  obtain ⟨up, ⟨ni, ps, is, p, q⟩, ts, ls, r, s⟩ := x0
  dsimp only at r0 h0 s0 t0 u0 y0
  subst r0
  clear w0 w1 w2 i0 j0 m0 n0
  have e1 : bits .and .i64 a1 255 = a1 % 256 := and255 a1
  have e2 : bits .and .i64 a2 255 = a2 % 256 := and255 a2
  generalize a1 % 256 = k at e1
  generalize a2 % 256 = vl at e2
  obtain ⟨a, c, a', c', b2, c2, b3, c3, rfl, rfl, rfl, rfl⟩ := h0.shape
  have BM := toHid (Box.new w #[.bool up, .int .i64 ni, .slice a ps.length c, .slice a' is.length c', .slice b2 ts.length c2, .slice b3 ls.length c3] 29)
  have N0 := toHid ((h0.alloc (.cells #[.bool up, .int .i64 ni, .slice a ps.length c, .slice a' is.length c', .slice b2 ts.length c2, .slice b3 ls.length c3] 29)).wide (Nat.le_refl _) (hi' := (w.alloc (.cells #[.bool up, .int .i64 ni, .slice a ps.length c, .slice a' is.length c', .slice b2 ts.length c2, .slice b3 ls.length c3] 29)).heap.size) (by simp))
  have hB := toHid ((Below.refl _ w).onA (.cells #[.bool up, .int .i64 ni, .slice a ps.length c, .slice a' is.length c', .slice b2 ts.length c2, .slice b3 ls.length c3] 29))
  clear h0
  go_enter Try.func5, Try.ntmps5
  go_upto_region 1 with (fail)
  generalize w.alloc (.cells #[.bool up, .int .i64 ni, .slice a ps.length c, .slice a' is.length c', .slice b2 ts.length c2, .slice b3 ls.length c3] 29) = wA at BM N0 hB ⊢
  go_upto_region 4 with (first
    | (go_at_call 16; refine (awake17_any _).mono ?_; rintro e W1 ⟨rfl, h1⟩
       replace BM := toHid (BM.out.below h1)
       replace N0 := toHid (N0.out.up h1)
       replace hB := toHid (hB.out.on h1)
       clear h1))
  clear e1 e2
  obtain ⟨m1, m2, m3⟩ := BM.out
  cases a3 with
  | false =>
    obtain ⟨E, hE⟩ : ∃ x, wrE ⟨up, ni, ps, is, ts, ls⟩ k vl false = x := ⟨_, rfl⟩
    by_cases hz : E = 0
    · subst hz
      have Y := wr_yes hE
      obtain rfl : up = true := Y.up
      have hR := Y.res
      have hnd := Y.nd2
      have hlen := Y.len
      have hst := Y.st
      obtain ⟨hX, hXb⟩ := Y.own
      have hbest := Y.best
      have hfirst := Y.first
      dsimp only at hR hnd hlen hX hXb hbest hfirst hst
      have hcb := getI_cnt k hst
      clear Y hst
      generalize hL : ins ts (wrIt ni ts k vl false) = L at hR hnd hlen hX hXb
      clear hL
      rw [wrIt] at hX hbest
      have hm : wrC ts k = (getI ts k).c + 1 := rfl
      generalize wrC ts k = m at hX hbest hfirst hm
      obtain ⟨⟨zk, zc, zu, zx, zg⟩, hz1⟩ : ∃ x, getI ts k = x := ⟨_, rfl⟩
      obtain ⟨b1, hb1⟩ : ∃ x, getB ts k = x := ⟨_, rfl⟩
      have hlen40 : L.length * 40 ≤ 140737488351232 := by omega
      have HN := toHid (fun (W : World) (p q r s : Value) (lo hi : Nat) (N : NdAt lo hi W p q r s ps is L ls) (hh : hi ≤ W.heap.size) => rNodeMay_is N hh s0 t0 hlen40 y0 hnd)
      clear hlen40 hnd hlen s0 t0 u0 y0
      have HP := toHid (wPut17_at true ni N0.out (Nat.le_refl _) k vl hE hR)
      clear hE hR
      go_upto_region 5 with (first
        | (go_at_call 9; refine HP.out.mono ?_; rintro e wp ⟨a5, c5, a6, c6, a7, c7, a8, c8, rfl, NA, hp⟩))
      clear m1 m2 m3 HP
      have st := hp.on ((Below.refl _ wp).onA (.cells #[.bool true, .int .i64 ni, .slice a5 ps.length c5, .slice a6 is.length c6, .slice a7 L.length c7, .slice a8 ls.length c8] 29))
      have BA := toHid (Box.new wp #[.bool true, .int .i64 ni, .slice a5 ps.length c5, .slice a6 is.length c6, .slice a7 L.length c7, .slice a8 ls.length c8] 29)
      replace NA := toHid ((NA.alloc (.cells #[.bool true, .int .i64 ni, .slice a5 ps.length c5, .slice a6 is.length c6, .slice a7 L.length c7, .slice a8 ls.length c8] 29)).wide (Nat.zero_le _) (hi' := (wp.alloc (.cells #[.bool true, .int .i64 ni, .slice a5 ps.length c5, .slice a6 is.length c6, .slice a7 L.length c7, .slice a8 ls.length c8] 29)).heap.size) (by simp))
      replace BM := toHid (BM.out.below st)
      replace N0 := toHid (N0.out.up st)
      replace hB := toHid (hB.out.on st)
      clear st hp
      generalize wp.alloc (.cells #[.bool true, .int .i64 ni, .slice a5 ps.length c5, .slice a6 is.length c6, .slice a7 L.length c7, .slice a8 ls.length c8] 29) = W2 at BA NA BM N0 hB ⊢
      have HG1 := toHid (fun (W : World) (v : Value) (lo hi : Nat) (N : RowT lo hi W v ts) (hh : hi ≤ W.heap.size) => rGet_any N hh k)
      have HG2 := toHid (fun (W : World) (v : Value) (lo hi : Nat) (N : RowT lo hi W v L) (hh : hi ≤ W.heap.size) => rGet_any N hh k)
      rw [hz1, hb1] at HG1
      rw [hX, hXb] at HG2
      rw [hz1] at hbest hm hcb
      rw [hb1] at hbest hfirst
      dsimp only at HG1 HG2 hm hcb
      clear hX hXb hz1 hb1
      replace hm := toHid hm
      replace hfirst := toHid hfirst
      replace hbest := toHid hbest
      replace hcb := toHid hcb
      obtain ⟨p1, p2, p3⟩ := BA.out
      go_upto_region 8 with (fail)
      go_upto_region 11 with (first
        | (go_at_call 14; refine (num_any _ _).mono ?_; rintro e w' ⟨rfl, hw'⟩; subst w')
        | (go_at_call 21; refine (HG2.out _ _ _ _ NA.out.ts (Nat.le_refl _)).mono ?_; rintro e wq ⟨rfl, hq⟩))
      clear p1 p2 p3 HG2
      have st := hq.on ((Below.refl _ wq).onA (.cells #[.int .i64 k, .int .i64 m, .int .i64 ni, .int .i64 vl, .bool false] 47))
      have BI := toHid (Box.new wq #[.int .i64 k, .int .i64 m, .int .i64 ni, .int .i64 vl, .bool false] 47)
      replace BA := toHid (BA.out.below st)
      replace NA := toHid (NA.out.up st)
      replace BM := toHid (BM.out.below st)
      replace N0 := toHid (N0.out.up st)
      replace hB := toHid (hB.out.on st)
      clear st hq
      generalize wq.alloc (.cells #[.int .i64 k, .int .i64 m, .int .i64 ni, .int .i64 vl, .bool false] 47) = W3 at BI BA NA BM N0 hB ⊢
      obtain ⟨m1, m2, m3⟩ := BM.out
      go_upto_region 12 with (first
        | (go_at_call 21; refine (HG1.out _ _ _ _ N0.out.ts (Nat.le_refl _)).mono ?_; rintro e wq2 ⟨rfl, hq⟩))
      clear m1 m2 m3 HG1
      have st := hq.on ((Below.refl _ wq2).onA (.cells #[.int .i64 zk, .int .i64 zc, .int .i64 zu, .int .i64 zx, .bool zg] 47))
      have BJ := toHid (Box.new wq2 #[.int .i64 zk, .int .i64 zc, .int .i64 zu, .int .i64 zx, .bool zg] 47)
      replace BI := toHid (BI.out.below st)
      replace BA := toHid (BA.out.below st)
      replace NA := toHid (NA.out.up st)
      replace BM := toHid (BM.out.below st)
      replace hB := toHid (hB.out.on st)
      clear st hq N0
      generalize wq2.alloc (.cells #[.int .i64 zk, .int .i64 zc, .int .i64 zu, .int .i64 zx, .bool zg] 47) = W4 at BI BJ BA NA BM hB ⊢
      obtain ⟨i1, i2, i3⟩ := BI.out
      obtain ⟨m1, m2, m3⟩ := BM.out
      cases b1 with
      | false =>
        obtain rfl : m = 1 := hfirst.out rfl
        clear hbest hm hcb
        go_wp2
        go_ret
        exact ⟨rfl, hB.out⟩
      | true =>
        obtain ⟨g1, g2⟩ := hbest.out rfl
        clear hbest hfirst
        obtain rfl := hm.out
        obtain ⟨hc0, hc1⟩ := hcb.out
        have HBt := toHid (fun W : World => rBest_any zk zc zu zx zg k (zc + 1) ni vl false W)
        rw [g1, g2] at HBt
        dsimp only at HBt
        obtain ⟨j1, j2, j3⟩ := BJ.out
        clear g1 g2
        go_upto_region 17 with (first
          | (go_at_call 22; refine (HBt.out _).mono ?_; rintro e wq3 ⟨rfl, hq⟩))
        clear i1 i2 i3 m1 m2 m3 j1 j2 j3 HBt
        have st := hq.on ((Below.refl _ wq3).onA (.cells #[.int .i64 k, .int .i64 (zc + 1), .int .i64 ni, .int .i64 vl, .bool false] 47))
        have BK := toHid (Box.new wq3 #[.int .i64 k, .int .i64 (zc + 1), .int .i64 ni, .int .i64 vl, .bool false] 47)
        replace BI := toHid (BI.out.below st)
        replace BJ := toHid (BJ.out.below st)
        replace BA := toHid (BA.out.below st)
        replace NA := toHid (NA.out.up st)
        replace hB := toHid (hB.out.on st)
        clear st hq BM
        generalize wq3.alloc (.cells #[.int .i64 k, .int .i64 (zc + 1), .int .i64 ni, .int .i64 vl, .bool false] 47) = W5 at BI BJ BK BA NA hB ⊢
        obtain ⟨i1, i2, i3⟩ := BI.out
        obtain ⟨j1, j2, j3⟩ := BJ.out
        obtain ⟨k1, k2, k3⟩ := BK.out
        obtain ⟨p1, p2, p3⟩ := BA.out
        go_wp2_with (first
          | (go_at_call 20; refine (HN.out _ _ _ _ _ _ _ NA.out (Nat.le_refl _)).mono ?_; rintro e W7 ⟨rfl, h7⟩))
        go_ret
        exact ⟨rfl, hB.out.on h7⟩
    · have hN := wr_no (n := ⟨up, ni, ps, is, ts, ls⟩) (g := false) (by rw [hE]; exact hz)
      have HP := toHid (wPut17_at up ni N0.out (Nat.le_refl _) k vl hE (show _ = (⟨false, 0, [], [], [], []⟩ : Nd) from hN))
      have hz2 : (E == 0) = false := by simpa using hz
      clear hE hN s0 t0 u0 y0
      go_upto_region 5 with (first
        | (go_at_call 9; refine HP.out.mono ?_; rintro e wp ⟨a5, c5, a6, c6, a7, c7, a8, c8, rfl, NA, hp⟩))
      have BA := toHid (Box.new wp #[.bool false, .int .i64 0, .slice a5 0 c5, .slice a6 0 c6, .slice a7 0 c7, .slice a8 0 c8] 29)
      replace NA := toHid (NA.alloc (.cells #[.bool false, .int .i64 0, .slice a5 0 c5, .slice a6 0 c6, .slice a7 0 c7, .slice a8 0 c8] 29))
      have hBp := toHid ((hB.out.on hp).onA (.cells #[.bool false, .int .i64 0, .slice a5 0 c5, .slice a6 0 c6, .slice a7 0 c7, .slice a8 0 c8] 29))
      have yA : Hid (wp.heap.size ≤ (wp.alloc (.cells #[.bool false, .int .i64 0, .slice a5 0 c5, .slice a6 0 c6, .slice a7 0 c7, .slice a8 0 c8] 29)).heap.size) := toHid (by simp)
      clear m1 m2 m3 HP hp BM N0 hB
      generalize wp.alloc (.cells #[.bool false, .int .i64 0, .slice a5 0 c5, .slice a6 0 c6, .slice a7 0 c7, .slice a8 0 c8] 29) = W2 at BA NA hBp yA ⊢
      obtain ⟨p1, p2, p3⟩ := BA.out
      go_wp2_with (first
        | (go_at_call 14; refine (num_any _ _).mono ?_; rintro e w' ⟨rfl, hw'⟩; subst w')
        | (go_at_call 13; refine (sameNode_same false 0 NA.out (NdAt.nil0 (lo := 0) (hi := 0)) yA.out (Nat.zero_le _)).mono ?_; rintro e W3 ⟨rfl, h3⟩))
      go_ret
      exact ⟨rfl, hBp.out.on h3⟩
  | true =>
    obtain ⟨E1, hE1⟩ : ∃ x, wrE ⟨up, ni, ps, is, ts, ls⟩ k vl false = x := ⟨_, rfl⟩
    obtain ⟨⟨u1, i1, p1, s1, t1, l1⟩, hN1⟩ : ∃ x, wrN ⟨up, ni, ps, is, ts, ls⟩ k vl false = x := ⟨_, rfl⟩
    have HP1 := toHid (wPut17_at up ni N0.out (Nat.le_refl _) k vl hE1 hN1)
    clear hE1 hN1
    go_upto_region 5 with (first
      | (go_at_call 9; refine HP1.out.mono ?_; rintro e wp ⟨d5, f5, d6, f6, d7, f7, d8, f8, rfl, NP, hp⟩))
    have xM : Hid (w.heap.size < wp.heap.size) := toHid (Nat.lt_of_lt_of_le m1 hp.size)
    clear m1 m2 m3 HP1 NP
    have st := hp.on ((Below.refl _ wp).onA (.cells #[.bool u1, .int .i64 i1, .slice d5 p1.length f5, .slice d6 s1.length f6, .slice d7 t1.length f7, .slice d8 l1.length f8] 29))
    have BP := toHid (Box.new wp #[.bool u1, .int .i64 i1, .slice d5 p1.length f5, .slice d6 s1.length f6, .slice d7 t1.length f7, .slice d8 l1.length f8] 29)
    have z0 : Hid (w.heap.size ≤ wp.heap.size) := toHid (hB.out.on hp).size
    replace BM := toHid (BM.out.below st)
    have yN : Hid (W1.heap.size ≤ wp.heap.size) := toHid hp.size
    replace N0 := toHid (N0.out.below st (Nat.le_refl _))
    replace hB := toHid (hB.out.on st)
    have y0' : Hid (wp.heap.size < (wp.alloc (.cells #[.bool u1, .int .i64 i1, .slice d5 p1.length f5, .slice d6 s1.length f6, .slice d7 t1.length f7, .slice d8 l1.length f8] 29)).heap.size) := toHid (by simp)
    clear st hp
    generalize wp.alloc (.cells #[.bool u1, .int .i64 i1, .slice d5 p1.length f5, .slice d6 s1.length f6, .slice d7 t1.length f7, .slice d8 l1.length f8] 29) = W2 at BP BM N0 hB y0' ⊢
    obtain ⟨m1, m2, m3⟩ := BM.out
    obtain ⟨q1, q2, q3⟩ := BP.out
    obtain ⟨E, hE⟩ : ∃ x, wrE ⟨up, ni, ps, is, ts, ls⟩ k 0 true = x := ⟨_, rfl⟩
    by_cases hz : E = 0
    · subst hz
      have Y := wr_yes hE
      obtain rfl : up = true := Y.up
      have hR := Y.res
      have hnd := Y.nd2
      have hlen := Y.len
      have hst := Y.st
      obtain ⟨hX, hXb⟩ := Y.own
      have hbest := Y.best
      have hfirst := Y.first
      dsimp only at hR hnd hlen hX hXb hbest hfirst hst
      have hcb := getI_cnt k hst
      clear Y hst
      generalize hL : ins ts (wrIt ni ts k 0 true) = L at hR hnd hlen hX hXb
      clear hL
      rw [wrIt] at hX hbest
      have hm : wrC ts k = (getI ts k).c + 1 := rfl
      generalize wrC ts k = m at hX hbest hfirst hm
      obtain ⟨⟨zk, zc, zu, zx, zg⟩, hz1⟩ : ∃ x, getI ts k = x := ⟨_, rfl⟩
      obtain ⟨b1, hb1⟩ : ∃ x, getB ts k = x := ⟨_, rfl⟩
      have hlen40 : L.length * 40 ≤ 140737488351232 := by omega
      have HN := toHid (fun (W : World) (p q r s : Value) (lo hi : Nat) (N : NdAt lo hi W p q r s ps is L ls) (hh : hi ≤ W.heap.size) => rNodeMay_is N hh s0 t0 hlen40 y0 hnd)
      clear hlen40 hnd hlen s0 t0 u0 y0
      have HP := toHid (wDrop17_at true ni N0.out (by have := yN.out; have := y0'.out; omega) k hE hR)
      clear hE hR
      go_upto_region 8 with (first
        | (go_at_call 11; refine HP.out.mono ?_; rintro e wr ⟨a5, c5, a6, c6, a7, c7, a8, c8, rfl, NA, hp⟩
           clear q1 q2 q3
           replace BP := toHid (BP.out.below hp)
           obtain ⟨q1, q2, q3⟩ := BP.out))
      clear m1 m2 m3 q1 q2 q3 HP
      obtain ⟨BA, ON⟩ := BP.out.set6 (.bool true) (.int .i64 ni) (.slice a5 ps.length c5) (.slice a6 is.length c6) (.slice a7 L.length c7) (.slice a8 ls.length c8)
      have hz0 := y0'.out
      have hzx := xM.out
      have hzn := yN.out
      have hsz := ON.size
      have hsp := hp.size
      replace NA := toHid ((NA.only ON (.inr (by omega))).wide (Nat.zero_le _) (hi' := ((((((wr.setCell ⟨wp.heap.size, 0, none⟩ (.bool true)).setCell ⟨wp.heap.size, 1, none⟩ (.int .i64 ni)).setCell ⟨wp.heap.size, 2, none⟩ (.slice a5 ps.length c5)).setCell ⟨wp.heap.size, 3, none⟩ (.slice a6 is.length c6)).setCell ⟨wp.heap.size, 4, none⟩ (.slice a7 L.length c7)).setCell ⟨wp.heap.size, 5, none⟩ (.slice a8 ls.length c8)).heap.size) (by omega))
      replace BM := toHid ((BM.out.below hp).only ON (.inl (by omega)))
      replace N0 := toHid (((N0.out.below hp (by omega)).only ON (.inl (by omega))).wide (Nat.zero_le _) (hi' := ((((((wr.setCell ⟨wp.heap.size, 0, none⟩ (.bool true)).setCell ⟨wp.heap.size, 1, none⟩ (.int .i64 ni)).setCell ⟨wp.heap.size, 2, none⟩ (.slice a5 ps.length c5)).setCell ⟨wp.heap.size, 3, none⟩ (.slice a6 is.length c6)).setCell ⟨wp.heap.size, 4, none⟩ (.slice a7 L.length c7)).setCell ⟨wp.heap.size, 5, none⟩ (.slice a8 ls.length c8)).heap.size) (by omega))
      replace hB := toHid ((hB.out.on hp).trans (ON.below.mono (by omega)))
      replace BA := toHid BA
      clear ON BP hz0 hzx hzn hsz hsp hp
      generalize ((((((wr.setCell ⟨wp.heap.size, 0, none⟩ (.bool true)).setCell ⟨wp.heap.size, 1, none⟩ (.int .i64 ni)).setCell ⟨wp.heap.size, 2, none⟩ (.slice a5 ps.length c5)).setCell ⟨wp.heap.size, 3, none⟩ (.slice a6 is.length c6)).setCell ⟨wp.heap.size, 4, none⟩ (.slice a7 L.length c7)).setCell ⟨wp.heap.size, 5, none⟩ (.slice a8 ls.length c8)) = W6 at BA NA BM N0 hB ⊢
      have HG1 := toHid (fun (W : World) (v : Value) (lo hi : Nat) (N : RowT lo hi W v ts) (hh : hi ≤ W.heap.size) => rGet_any N hh k)
      have HG2 := toHid (fun (W : World) (v : Value) (lo hi : Nat) (N : RowT lo hi W v L) (hh : hi ≤ W.heap.size) => rGet_any N hh k)
      rw [hz1, hb1] at HG1
      rw [hX, hXb] at HG2
      rw [hz1] at hbest hm hcb
      rw [hb1] at hbest hfirst
      dsimp only at HG1 HG2 hm hcb
      clear hX hXb hz1 hb1
      replace hm := toHid hm
      replace hfirst := toHid hfirst
      replace hbest := toHid hbest
      replace hcb := toHid hcb
      obtain ⟨p1, p2, p3⟩ := BA.out
      go_upto_region 8 with (fail)
      go_upto_region 11 with (first
        | (go_at_call 14; refine (num_any _ _).mono ?_; rintro e w' ⟨rfl, hw'⟩; subst w')
        | (go_at_call 21; refine (HG2.out _ _ _ _ NA.out.ts (Nat.le_refl _)).mono ?_; rintro e wq ⟨rfl, hq⟩))
      clear p1 p2 p3 HG2
      have st := hq.on ((Below.refl _ wq).onA (.cells #[.int .i64 k, .int .i64 m, .int .i64 ni, .int .i64 0, .bool true] 47))
      have BI := toHid (Box.new wq #[.int .i64 k, .int .i64 m, .int .i64 ni, .int .i64 0, .bool true] 47)
      replace BA := toHid (BA.out.below st)
      replace NA := toHid (NA.out.up st)
      replace BM := toHid (BM.out.below st)
      replace N0 := toHid (N0.out.up st)
      replace hB := toHid (hB.out.on st)
      clear st hq
      generalize wq.alloc (.cells #[.int .i64 k, .int .i64 m, .int .i64 ni, .int .i64 0, .bool true] 47) = W3 at BI BA NA BM N0 hB ⊢
      obtain ⟨m1, m2, m3⟩ := BM.out
      go_upto_region 12 with (first
        | (go_at_call 21; refine (HG1.out _ _ _ _ N0.out.ts (Nat.le_refl _)).mono ?_; rintro e wq2 ⟨rfl, hq⟩))
      clear m1 m2 m3 HG1
      have st := hq.on ((Below.refl _ wq2).onA (.cells #[.int .i64 zk, .int .i64 zc, .int .i64 zu, .int .i64 zx, .bool zg] 47))
      have BJ := toHid (Box.new wq2 #[.int .i64 zk, .int .i64 zc, .int .i64 zu, .int .i64 zx, .bool zg] 47)
      replace BI := toHid (BI.out.below st)
      replace BA := toHid (BA.out.below st)
      replace NA := toHid (NA.out.up st)
      replace BM := toHid (BM.out.below st)
      replace hB := toHid (hB.out.on st)
      clear st hq N0
      generalize wq2.alloc (.cells #[.int .i64 zk, .int .i64 zc, .int .i64 zu, .int .i64 zx, .bool zg] 47) = W4 at BI BJ BA NA BM hB ⊢
      obtain ⟨i1, i2, i3⟩ := BI.out
      obtain ⟨m1, m2, m3⟩ := BM.out
      cases b1 with
      | false =>
        obtain rfl : m = 1 := hfirst.out rfl
        clear hbest hm hcb
        go_wp2
        go_ret
        exact ⟨rfl, hB.out⟩
      | true =>
        obtain ⟨g1, g2⟩ := hbest.out rfl
        clear hbest hfirst
        obtain rfl := hm.out
        obtain ⟨hc0, hc1⟩ := hcb.out
        have HBt := toHid (fun W : World => rBest_any zk zc zu zx zg k (zc + 1) ni 0 true W)
        rw [g1, g2] at HBt
        dsimp only at HBt
        obtain ⟨j1, j2, j3⟩ := BJ.out
        clear g1 g2
        go_upto_region 17 with (first
          | (go_at_call 22; refine (HBt.out _).mono ?_; rintro e wq3 ⟨rfl, hq⟩))
        clear i1 i2 i3 m1 m2 m3 j1 j2 j3 HBt
        have st := hq.on ((Below.refl _ wq3).onA (.cells #[.int .i64 k, .int .i64 (zc + 1), .int .i64 ni, .int .i64 0, .bool true] 47))
        have BK := toHid (Box.new wq3 #[.int .i64 k, .int .i64 (zc + 1), .int .i64 ni, .int .i64 0, .bool true] 47)
        replace BI := toHid (BI.out.below st)
        replace BJ := toHid (BJ.out.below st)
        replace BA := toHid (BA.out.below st)
        replace NA := toHid (NA.out.up st)
        replace hB := toHid (hB.out.on st)
        clear st hq BM
        generalize wq3.alloc (.cells #[.int .i64 k, .int .i64 (zc + 1), .int .i64 ni, .int .i64 0, .bool true] 47) = W5 at BI BJ BK BA NA hB ⊢
        obtain ⟨i1, i2, i3⟩ := BI.out
        obtain ⟨j1, j2, j3⟩ := BJ.out
        obtain ⟨k1, k2, k3⟩ := BK.out
        obtain ⟨p1, p2, p3⟩ := BA.out
        go_wp2_with (first
          | (go_at_call 20; refine (HN.out _ _ _ _ _ _ _ NA.out (Nat.le_refl _)).mono ?_; rintro e W7 ⟨rfl, h7⟩))
        go_ret
        exact ⟨rfl, hB.out.on h7⟩
    · have hN := wr_no (n := ⟨up, ni, ps, is, ts, ls⟩) (g := true) (by rw [hE]; exact hz)
      have HP := toHid (wDrop17_at up ni N0.out (by have := yN.out; have := y0'.out; omega) k hE (show _ = (⟨false, 0, [], [], [], []⟩ : Nd) from hN))
      have hz2 : (E == 0) = false := by simpa using hz
      clear hE hN s0 t0 u0 y0
      go_upto_region 8 with (first
        | (go_at_call 11; refine HP.out.mono ?_; rintro e wr ⟨a5, c5, a6, c6, a7, c7, a8, c8, rfl, NA, hp⟩
           clear q1 q2 q3
           replace BP := toHid (BP.out.below hp)
           obtain ⟨q1, q2, q3⟩ := BP.out))
      clear m1 m2 m3 q1 q2 q3 HP
      obtain ⟨BA, ON⟩ := BP.out.set6 (.bool false) (.int .i64 0) (.slice a5 0 c5) (.slice a6 0 c6) (.slice a7 0 c7) (.slice a8 0 c8)
      have hz0 := y0'.out
      have hzx := xM.out
      have hsz := ON.size
      have hsp := hp.size
      replace NA := toHid ((NA.only ON (.inr (by omega))).wide (Nat.zero_le _) (hi' := ((((((wr.setCell ⟨wp.heap.size, 0, none⟩ (.bool false)).setCell ⟨wp.heap.size, 1, none⟩ (.int .i64 0)).setCell ⟨wp.heap.size, 2, none⟩ (.slice a5 0 c5)).setCell ⟨wp.heap.size, 3, none⟩ (.slice a6 0 c6)).setCell ⟨wp.heap.size, 4, none⟩ (.slice a7 0 c7)).setCell ⟨wp.heap.size, 5, none⟩ (.slice a8 0 c8)).heap.size) (by omega))
      have yA := toHid (Nat.le_refl ((((((wr.setCell ⟨wp.heap.size, 0, none⟩ (.bool false)).setCell ⟨wp.heap.size, 1, none⟩ (.int .i64 0)).setCell ⟨wp.heap.size, 2, none⟩ (.slice a5 0 c5)).setCell ⟨wp.heap.size, 3, none⟩ (.slice a6 0 c6)).setCell ⟨wp.heap.size, 4, none⟩ (.slice a7 0 c7)).setCell ⟨wp.heap.size, 5, none⟩ (.slice a8 0 c8)).heap.size)
      have hBp := toHid ((hB.out.on hp).trans (ON.below.mono (by omega)))
      replace BA := toHid BA
      clear ON BP hz0 hzx hsz hsp hp BM N0 hB
      generalize ((((((wr.setCell ⟨wp.heap.size, 0, none⟩ (.bool false)).setCell ⟨wp.heap.size, 1, none⟩ (.int .i64 0)).setCell ⟨wp.heap.size, 2, none⟩ (.slice a5 0 c5)).setCell ⟨wp.heap.size, 3, none⟩ (.slice a6 0 c6)).setCell ⟨wp.heap.size, 4, none⟩ (.slice a7 0 c7)).setCell ⟨wp.heap.size, 5, none⟩ (.slice a8 0 c8)) = W6 at BA NA hBp yA ⊢
      obtain ⟨p1, p2, p3⟩ := BA.out
      go_wp2_with (first
        | (go_at_call 14; refine (num_any _ _).mono ?_; rintro e w' ⟨rfl, hw'⟩; subst w')
        | (go_at_call 13; refine (sameNode_same false 0 NA.out (NdAt.nil0 (lo := 0) (hi := 0)) yA.out (Nat.zero_le _)).mono ?_; rintro e W3 ⟨rfl, h3⟩))
      go_ret
      exact ⟨rfl, hBp.out.on h3⟩

/-! ### The row's step -/
set_option maxRecDepth 100000 in
theorem lifted (os : Os) (started : os.Started) (H : Type) (enc : TypeId × Value → H) :
    ReturnsInHanded {} Try.checked os 5 .any (Rows.writeNewerSpec.pre6 enc Try.prog Try.f5 Rows.writeNewerRow.domain false) (Rows.writeNewerSpec.post enc Try.prog Try.f5 false true false false) := by
  refine returnsInHanded_of_change_sized (C := Try.checked) ownK started (by kernel_rfl) Try.func5
    (ChangeSpec.witness6 (enc := enc) (C := Try.checked) false ⟨#[], #[.agg #[.bool false, .int .i64 0, .slice none 0 0, .slice none 0 0, .slice none 0 0, .slice none 0 0], .int .i64 0, .int .i64 0, .bool false], []⟩ 8 (by kernel_rfl) (by kernel_rfl) (by kernel_rfl) (by kernel_rfl)) ?_
  intro W base args ds gs before hval0 hW hcnd hsz0 _
  have hsz : (DataW.weightsEach Try.prog (Try.f5.params.toList ++ Rows.writeNewerSpec.plain.varTypes Try.prog) (ds ++ gs)).all (· ≤ reachBytes) = true := hsz0
  have hval : ∀ (j : Nat) t v, Try.f5.params[j]? = some t → args[j]? = some v → Value.okWide Try.prog W .any base t v := hval0
  have hW' := hW
  obtain ⟨p, q, hA0, hV, rfl, hfz, hnd⟩ := hW
  have hA : DataW.TrodAll enc Try.prog W 0 (fun _ => true) true Try.f5.params.toList args.toList ds p := hA0
  rw [Try.params5] at hA hval hsz
  obtain ⟨v0, vs0, d0, ds0, p0, q0, hargs, rfl, rfl, h0, r0⟩ := trodAll_cons hA
  obtain ⟨v1, vs1, d1, ds1, p1, q1, rfl, rfl, rfl, h1, r1⟩ := trodAll_cons r0
  obtain ⟨v2, vs2, d2, ds2, p2, q2, rfl, rfl, rfl, h2, r2⟩ := trodAll_cons r1
  obtain ⟨v3, vs3, d3, ds3, p3, q3, rfl, rfl, rfl, h3, r3⟩ := trodAll_cons r2
  obtain ⟨rfl, rfl, rfl⟩ := trodAll_nil r3
  obtain rfl : args = #[v0, v1, v2, v3] := by cases args; simp_all
  obtain ⟨rfl, rfl⟩ := trodVars_none hV
  clear r0 r1 r2 r3
  have k0 := h0
  have lt0 : ∀ x ∈ p0, x.block < W.heap.size := by obtain ⟨m, hm⟩ := k0; exact DataW.trod_lt m _ _ _ hm
  have z0 : ∀ n ∈ d0.weights Try.prog 29, n ≤ reachBytes := fun n hn => by simpa using List.all_eq_true.1 hsz _ (DataW.weights_mem_each (j := 0) rfl rfl n hn)
  have f0 : W.noneFrozen p0 := fun b off hm => hfz b off (by simp [hm])
  have k1 := h1
  have lt1 : ∀ x ∈ p1, x.block < W.heap.size := by obtain ⟨m, hm⟩ := k1; exact DataW.trod_lt m _ _ _ hm
  have k2 := h2
  have lt2 : ∀ x ∈ p2, x.block < W.heap.size := by obtain ⟨m, hm⟩ := k2; exact DataW.trod_lt m _ _ _ hm
  have k3 := h3
  have lt3 : ∀ x ∈ p3, x.block < W.heap.size := by obtain ⟨m, hm⟩ := k3; exact DataW.trod_lt m _ _ _ hm
  obtain ⟨x0, r0, h0, s0, t0, u0, y0, w0, i0, j0, m0, n0⟩ := open_node (hval 0 29 v0 rfl rfl) h0 f0 z0
  obtain ⟨a1, rfl, rfl, rfl, w1⟩ := open_int Try.underlying3 (hval 1 3 v1 rfl rfl) h1
  obtain ⟨a2, rfl, rfl, rfl, w2⟩ := open_int Try.underlying3 (hval 2 3 v2 rfl rfl) h2
  obtain ⟨a3, rfl, rfl, rfl⟩ := open_bool Try.underlying4 (hval 3 4 v3 rfl rfl) h3
  clear hA0 hval0
  refine (walk v0 x0 a1 a2 a3 W r0 h0 s0 t0 u0 y0 w0 i0 j0 m0 n0 w1 w2).mono fun e W' ⟨he, bel⟩ => ?_
  subst he
  exact ⟨_, rfl, _, _, _, [], _, [], hW', trodAll_mk1 (shut_bool Try.underlying4 _), (trodAll_cons_mk (Below.trod laidOut (by kernel_rfl) (of_decide_eq_true (by kernel_rfl)) k0 bel lt0) (trodAll_cons_mk (Below.trod laidOut (by kernel_rfl) (of_decide_eq_true (by kernel_rfl)) k1 bel lt1) (trodAll_cons_mk (Below.trod laidOut (by kernel_rfl) (of_decide_eq_true (by kernel_rfl)) k2 bel lt2) (trodAll_cons_mk (Below.trod laidOut (by kernel_rfl) (of_decide_eq_true (by kernel_rfl)) k3 bel lt3) trodAll_mk0)))), rfl, bel.frame _, fun h => by cases h⟩

theorem over : Rows.writeNewerRow.holds Try.pinned (OpenSpec.ofChange Rows.writeNewerSpec) :=
  OpenClaim.holds_of_wide 5 Try.f5 rfl rfl rfl rfl rfl rfl rfl ⟨rfl, rfl, rfl, rfl, rfl⟩ rfl rfl rfl rfl rfl (by kernel_rfl) Try.func5 (by kernel_rfl)
    (of_decide_eq_true (by kernel_rfl)) (by unfold Func.isWrapper; first | (rw [if_pos (by decide +kernel)]; kernel_rfl) | (rw [if_neg (by decide +kernel)]; exact ⟨rfl, rfl⟩))
    (fun os started H enc _ => lifted os started H enc)

end Go.Proofs.Ytgakfbdaiogflaa.writeNewer

namespace Go.Proofs.Ytgakfbdaiogflaa
/-- The statement, by its short name. -/
theorem writeNewer_holds : Rows.WriteNewerSaid := writeNewer.over
#print axioms writeNewer_holds
end Go.Proofs.Ytgakfbdaiogflaa
