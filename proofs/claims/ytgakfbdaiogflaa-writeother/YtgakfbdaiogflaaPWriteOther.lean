
/-
  The statement WriteOther: at any node, key, value and other key, Put leaves the items of all other keys, the view and the log as they were, and what it answers may be.
-/
import Derived.Test.YtgakfbdaiogflaaRows
import Derived.Test.YtgakfbdaiogflaaOpen
import Derived.Test.YtgakfbdaiogflaaWriteLaw
import Derived.Test.YtgakfbdaiogflaaWrMath
import Derived.Test.YtgakfbdaiogflaaOpenN
import Derived.Deep.DeepCutAuto
import Derived.Deep.CutRange
import Derived.Deep.CutBlock
namespace Go.Proofs.Ytgakfbdaiogflaa.writeOther
open Go.ChangeShapes Go.WideShapes Go.ChangeAt Go.RowKit
set_option linter.unusedVariables false

/-! ### The walk -/
set_option maxHeartbeats 8000000 in
theorem walk (v0 : Value) (x0 : NdO) (a1 : Int) (a2 : Int) (a3 : Int) (w : World) (r0 : v0 = .agg #[.bool x0.up, .int .i64 x0.v.i, x0.v.p, x0.v.q, x0.r, x0.s]) (h0 : NdAt 0 w.heap.size w x0.v.p x0.v.q x0.r x0.s x0.v.ps x0.v.is x0.ts x0.ls) (s0 : x0.v.ps.length * 16 ≤ 140737488351232) (t0 : x0.v.is.length * 8 ≤ 140737488351232) (u0 : x0.ts.length * 40 ≤ 140737488351232) (y0 : x0.ls.length * 24 ≤ 140737488351232) (w0 : (Lit.int .i64 x0.v.i).wf = true) (i0 : ∀ y ∈ x0.v.ps, PeW y) (j0 : ∀ y ∈ x0.v.is, (Lit.int .i64 y).wf = true) (m0 : ∀ y ∈ x0.ts, ItW y) (n0 : ∀ y ∈ x0.ls, TeW y) (w1 : (Lit.int .i64 a1).wf = true) (w2 : (Lit.int .i64 a2).wf = true) (w3 : (Lit.int .i64 a3).wf = true) :
    Calls Try.prog 6 #[v0, .int .i64 a1, .int .i64 a2, .int .i64 a3] w fun e w' => e = .returned (.bool true) ∧ Below w.heap.size w w' := by
  obtain ⟨up, ⟨ni, ps, is, p, q⟩, ts, ls, r, s⟩ := x0
  dsimp only at r0 h0 s0 t0 u0 y0
  subst r0
  clear w0 w1 w2 w3 i0 j0 m0 n0
  have e1 : bits .and .i64 a1 255 = a1 % 256 := and255 a1
  have e2 : bits .and .i64 a2 255 = a2 % 256 := and255 a2
  have e3 : bits .and .i64 a3 255 = a3 % 256 := and255 a3
  generalize a1 % 256 = k at e1
  generalize a2 % 256 = vl at e2
  generalize a3 % 256 = o at e3
  obtain ⟨a, c, a', c', b2, c2, b3, c3, rfl, rfl, rfl, rfl⟩ := h0.shape
  have BM := toHid (Box.new w #[.bool up, .int .i64 ni, .slice a ps.length c, .slice a' is.length c', .slice b2 ts.length c2, .slice b3 ls.length c3] 29)
  have N0 := toHid ((h0.alloc (.cells #[.bool up, .int .i64 ni, .slice a ps.length c, .slice a' is.length c', .slice b2 ts.length c2, .slice b3 ls.length c3] 29)).wide (Nat.le_refl _) (hi' := (w.alloc (.cells #[.bool up, .int .i64 ni, .slice a ps.length c, .slice a' is.length c', .slice b2 ts.length c2, .slice b3 ls.length c3] 29)).heap.size) (by simp))
  have hB := toHid ((Below.refl _ w).onA (.cells #[.bool up, .int .i64 ni, .slice a ps.length c, .slice a' is.length c', .slice b2 ts.length c2, .slice b3 ls.length c3] 29))
  clear h0
  go_enter Try.func6, Try.ntmps6
  go_upto_region 1 with (fail)
  generalize w.alloc (.cells #[.bool up, .int .i64 ni, .slice a ps.length c, .slice a' is.length c', .slice b2 ts.length c2, .slice b3 ls.length c3] 29) = wA at BM N0 hB ⊢
  go_upto_region 4 with (first
    | (go_at_call 16; refine (awake17_any _).mono ?_; rintro e W1 ⟨rfl, h1⟩
       replace BM := toHid (BM.out.below h1)
       replace N0 := toHid (N0.out.up h1)
       replace hB := toHid (hB.out.on h1)
       clear h1))
  clear e1 e3
  obtain ⟨E, hE⟩ : ∃ x, wrE ⟨up, ni, ps, is, ts, ls⟩ k vl false = x := ⟨_, rfl⟩
  obtain ⟨m1, m2, m3⟩ := BM.out
  by_cases hz : E = 0
  · subst hz
    have Y := wr_yes hE
    obtain rfl : up = true := Y.up
    have hR := Y.res
    have hnd := Y.nd2
    have hlen := Y.len
    have hnd0 := Y.nd
    have hoth := fun ho : ¬ k = o => Y.other ho
    dsimp only at hR hnd hlen hoth
    clear Y
    generalize ins ts (wrIt ni ts k vl false) = L at hR hnd hlen hoth
    have HP := toHid (wPut17_at true ni N0.out (Nat.le_refl _) k vl hE hR)
    clear hE hR
    obtain ⟨z1, hz1⟩ : ∃ x, getI ts o = x := ⟨_, rfl⟩
    obtain ⟨b1, hb1⟩ : ∃ x, getB ts o = x := ⟨_, rfl⟩
    have HG1 := toHid (fun (W : World) (v : Value) (lo hi : Nat) (N : RowT lo hi W v ts) (hh : hi ≤ W.heap.size) => rGet_any N hh o)
    rw [hz1, hb1] at HG1
    go_upto_region 5 with (first
      | (go_at_call 9; refine HP.out.mono ?_; rintro e wp ⟨a5, c5, a6, c6, a7, c7, a8, c8, rfl, NA, hp⟩))
    clear m1 m2 m3 HP
    have st := hp.on ((Below.refl _ wp).onA (.cells #[.bool true, .int .i64 ni, .slice a5 ps.length c5, .slice a6 is.length c6, .slice a7 L.length c7, .slice a8 ls.length c8] 29))
    have BA := toHid (Box.new wp #[.bool true, .int .i64 ni, .slice a5 ps.length c5, .slice a6 is.length c6, .slice a7 L.length c7, .slice a8 ls.length c8] 29)
    replace NA := toHid ((NA.alloc (.cells #[.bool true, .int .i64 ni, .slice a5 ps.length c5, .slice a6 is.length c6, .slice a7 L.length c7, .slice a8 ls.length c8] 29)).wide (Nat.zero_le _) (hi' := (wp.alloc (.cells #[.bool true, .int .i64 ni, .slice a5 ps.length c5, .slice a6 is.length c6, .slice a7 L.length c7, .slice a8 ls.length c8] 29)).heap.size) (by simp))
    replace BM := toHid (BM.out.below st)
    replace N0 := toHid (N0.out.up st)
    replace hB := toHid (hB.out.on st)
    clear st hp
    generalize wp.alloc (.cells #[.bool true, .int .i64 ni, .slice a5 ps.length c5, .slice a6 is.length c6, .slice a7 L.length c7, .slice a8 ls.length c8] 29) = W2 at BA NA BM N0 hB ⊢
    go_upto_region 7 with (first
      | (go_at_call 14; refine (num_any _ _).mono ?_; rintro e w' ⟨rfl, hw'⟩; subst w'))
    obtain ⟨m1, m2, m3⟩ := BM.out
    go_upto_region 8 with (first
      | (go_at_call 21; refine (HG1.out _ _ _ _ N0.out.ts (Nat.le_refl _)).mono ?_; rintro e wq ⟨rfl, hq⟩))
    clear m1 m2 m3 HG1
    have st := hq.on ((Below.refl _ wq).onA (Obj.cells #[.int .i64 z1.k, .int .i64 z1.c, .int .i64 z1.u, .int .i64 z1.x, .bool z1.g] 47))
    have BI := toHid (Box.new wq #[.int .i64 z1.k, .int .i64 z1.c, .int .i64 z1.u, .int .i64 z1.x, .bool z1.g] 47)
    replace BA := toHid (BA.out.below st)
    replace NA := toHid (NA.out.up st)
    replace BM := toHid (BM.out.below st)
    replace N0 := toHid (N0.out.up st)
    replace hB := toHid (hB.out.on st)
    clear st hq
    generalize wq.alloc (Obj.cells #[.int .i64 z1.k, .int .i64 z1.c, .int .i64 z1.u, .int .i64 z1.x, .bool z1.g] 47) = W3 at BI BA NA BM N0 hB ⊢
    have s1 : ps.length * 16 ≤ 140737488351232 := s0
    have hl16 : L.length * 40 ≤ 140737488351232 := by omega
    have HN := toHid (fun (W : World) (p q r s : Value) (lo hi : Nat) (N : NdAt lo hi W p q r s ps is L ls) (hh : hi ≤ W.heap.size) => rNodeMay_is N hh s0 t0 hl16 y0 hnd)
    clear hl16 s1 hnd hnd0 s0 t0 u0 y0 hlen
    obtain ⟨p1, p2, p3⟩ := BA.out
    have hLL := toHid (fun (W : World) (v : Value) (lo hi : Nat) (N : RowT lo hi W v L) (hh : hi ≤ W.heap.size) => rGet_any N hh o)
    by_cases hko : k = o
    · have hko2 : (k == o) = true := by simpa using hko
      clear hoth
      obtain ⟨z2, hz2⟩ : ∃ x, getI L o = x := ⟨_, rfl⟩
      obtain ⟨b4, hb2⟩ : ∃ x, getB L o = x := ⟨_, rfl⟩
      rw [hz2, hb2] at hLL
      clear hz1 hz2 hb1 hb2
      go_upto_region 9 with (first
        | (go_at_call 21; refine (hLL.out _ _ _ _ NA.out.ts (Nat.le_refl _)).mono ?_; rintro e wq2 ⟨rfl, hq⟩))
      clear p1 p2 p3 hLL
      have st := hq.on ((Below.refl _ wq2).onA (Obj.cells #[.int .i64 z2.k, .int .i64 z2.c, .int .i64 z2.u, .int .i64 z2.x, .bool z2.g] 47))
      have BJ := toHid (Box.new wq2 #[.int .i64 z2.k, .int .i64 z2.c, .int .i64 z2.u, .int .i64 z2.x, .bool z2.g] 47)
      replace BI := toHid (BI.out.below st)
      replace BA := toHid (BA.out.below st)
      replace NA := toHid (NA.out.up st)
      replace BM := toHid (BM.out.below st)
      replace N0 := toHid (N0.out.up st)
      replace hB := toHid (hB.out.on st)
      clear st hq
      generalize wq2.alloc (Obj.cells #[.int .i64 z2.k, .int .i64 z2.c, .int .i64 z2.u, .int .i64 z2.x, .bool z2.g] 47) = W4 at BI BJ BA NA BM N0 hB ⊢
      obtain ⟨p1, p2, p3⟩ := BA.out
      obtain ⟨m1, m2, m3⟩ := BM.out
      go_wp2_with (first
        | (go_at_call 23; refine (sameView_same ni NA.out.vw N0.out.vw (Nat.le_refl _) (Nat.le_refl _)).mono ?_; rintro e W5 ⟨rfl, h5⟩
           replace BI := toHid (BI.out.below h5)
           replace BJ := toHid (BJ.out.below h5)
           replace BA := toHid (BA.out.below h5)
           replace NA := toHid (NA.out.up h5)
           replace BM := toHid (BM.out.below h5)
           replace N0 := toHid (N0.out.up h5)
           replace hB := toHid (hB.out.on h5)
           clear h5 p1 p2 p3 m1 m2 m3
           obtain ⟨p1, p2, p3⟩ := BA.out
           obtain ⟨m1, m2, m3⟩ := BM.out)
        | (go_at_call 24; refine (sameE_at NA.out.ls N0.out.ls (b := true) (by simp)).mono ?_; rintro e W6 ⟨rfl, h6⟩
           replace BI := toHid (BI.out.below h6)
           replace BJ := toHid (BJ.out.below h6)
           replace BA := toHid (BA.out.below h6)
           replace NA := toHid (NA.out.up h6)
           replace hB := toHid (hB.out.on h6)
           clear h6 p1 p2 p3 m1 m2 m3 BM N0
           obtain ⟨p1, p2, p3⟩ := BA.out
           obtain ⟨i1, i2, i3⟩ := BI.out
           obtain ⟨j1, j2, j3⟩ := BJ.out)
        | (go_at_call 20; refine (HN.out _ _ _ _ _ _ _ NA.out (Nat.le_refl _)).mono ?_; rintro e W7 ⟨rfl, h7⟩))
      go_ret
      exact ⟨rfl, hB.out.on h7⟩
    · have hko2 : (k == o) = false := by simpa using hko
      obtain ⟨g1, g2⟩ := hoth hko
      rw [g1, g2, hz1, hb1] at hLL
      clear hoth g1 g2 hz1 hb1
      go_upto_region 9 with (first
        | (go_at_call 21; refine (hLL.out _ _ _ _ NA.out.ts (Nat.le_refl _)).mono ?_; rintro e wq2 ⟨rfl, hq⟩))
      clear p1 p2 p3 hLL
      have st := hq.on ((Below.refl _ wq2).onA (Obj.cells #[.int .i64 z1.k, .int .i64 z1.c, .int .i64 z1.u, .int .i64 z1.x, .bool z1.g] 47))
      have BJ := toHid (Box.new wq2 #[.int .i64 z1.k, .int .i64 z1.c, .int .i64 z1.u, .int .i64 z1.x, .bool z1.g] 47)
      replace BI := toHid (BI.out.below st)
      replace BA := toHid (BA.out.below st)
      replace NA := toHid (NA.out.up st)
      replace BM := toHid (BM.out.below st)
      replace N0 := toHid (N0.out.up st)
      replace hB := toHid (hB.out.on st)
      clear st hq
      generalize wq2.alloc (Obj.cells #[.int .i64 z1.k, .int .i64 z1.c, .int .i64 z1.u, .int .i64 z1.x, .bool z1.g] 47) = W4 at BI BJ BA NA BM N0 hB ⊢
      obtain ⟨p1, p2, p3⟩ := BA.out
      obtain ⟨m1, m2, m3⟩ := BM.out
      go_wp2_with (first
        | (go_at_call 23; refine (sameView_same ni NA.out.vw N0.out.vw (Nat.le_refl _) (Nat.le_refl _)).mono ?_; rintro e W5 ⟨rfl, h5⟩
           replace BI := toHid (BI.out.below h5)
           replace BJ := toHid (BJ.out.below h5)
           replace BA := toHid (BA.out.below h5)
           replace NA := toHid (NA.out.up h5)
           replace BM := toHid (BM.out.below h5)
           replace N0 := toHid (N0.out.up h5)
           replace hB := toHid (hB.out.on h5)
           clear h5 p1 p2 p3 m1 m2 m3
           obtain ⟨p1, p2, p3⟩ := BA.out
           obtain ⟨m1, m2, m3⟩ := BM.out)
        | (go_at_call 24; refine (sameE_at NA.out.ls N0.out.ls (b := true) (by simp)).mono ?_; rintro e W6 ⟨rfl, h6⟩
           replace BI := toHid (BI.out.below h6)
           replace BJ := toHid (BJ.out.below h6)
           replace BA := toHid (BA.out.below h6)
           replace NA := toHid (NA.out.up h6)
           replace hB := toHid (hB.out.on h6)
           clear h6 p1 p2 p3 m1 m2 m3 BM N0
           obtain ⟨p1, p2, p3⟩ := BA.out
           obtain ⟨i1, i2, i3⟩ := BI.out
           obtain ⟨j1, j2, j3⟩ := BJ.out)
        | (go_at_call 20; refine (HN.out _ _ _ _ _ _ _ NA.out (Nat.le_refl _)).mono ?_; rintro e W7 ⟨rfl, h7⟩))
      go_ret
      exact ⟨rfl, hB.out.on h7⟩
  · have hN := wr_no (n := ⟨up, ni, ps, is, ts, ls⟩) (g := false) (by rw [hE]; exact hz)
    have HP := toHid (wPut17_at up ni N0.out (Nat.le_refl _) k vl hE (show _ = (⟨false, 0, [], [], [], []⟩ : Nd) from hN))
    have hz2 : (E == 0) = false := by simpa using hz
    clear hE hN s0 t0 u0 y0
    go_upto_region 5 with (first
      | (go_at_call 9; refine HP.out.mono ?_; rintro e wp ⟨a5, c5, a6, c6, a7, c7, a8, c8, rfl, NA, hp⟩))
    have BA := toHid (Box.new wp #[.bool false, .int .i64 0, .slice a5 0 c5, .slice a6 0 c6, .slice a7 0 c7, .slice a8 0 c8] 29)
    replace NA := toHid (NA.alloc (.cells #[.bool false, .int .i64 0, .slice a5 0 c5, .slice a6 0 c6, .slice a7 0 c7, .slice a8 0 c8] 29))
    have hBp := toHid ((hB.out.on hp).onA (.cells #[.bool false, .int .i64 0, .slice a5 0 c5, .slice a6 0 c6, .slice a7 0 c7, .slice a8 0 c8] 29))
    have yA : Hid (wp.heap.size ≤ (wp.alloc (.cells #[.bool false, .int .i64 0, .slice a5 0 c5, .slice a6 0 c6, .slice a7 0 c7, .slice a8 0 c8] 29)).heap.size) := toHid (by simp)
    clear m1 m2 m3 HP hp BM N0 hB
    generalize wp.alloc (.cells #[.bool false, .int .i64 0, .slice a5 0 c5, .slice a6 0 c6, .slice a7 0 c7, .slice a8 0 c8] 29) = W2 at BA NA hBp yA ⊢
    obtain ⟨p1, p2, p3⟩ := BA.out
    go_wp2_with (first
      | (go_at_call 14; refine (num_any _ _).mono ?_; rintro e w' ⟨rfl, hw'⟩; subst w')
      | (go_at_call 13; refine (sameNode_same false 0 NA.out (NdAt.nil0 (lo := 0) (hi := 0)) yA.out (Nat.zero_le _)).mono ?_; rintro e W3 ⟨rfl, h3⟩))
    go_ret
    exact ⟨rfl, hBp.out.on h3⟩

/-! ### The row's step -/
set_option maxRecDepth 100000 in
theorem lifted (os : Os) (started : os.Started) (H : Type) (enc : TypeId × Value → H) :
    ReturnsInHanded {} Try.checked os 6 .any (Rows.writeOtherSpec.pre6 enc Try.prog Try.f6 Rows.writeOtherRow.domain false) (Rows.writeOtherSpec.post enc Try.prog Try.f6 false true false false) := by
  refine returnsInHanded_of_change_sized (C := Try.checked) ownK started (by kernel_rfl) Try.func6
    (ChangeSpec.witness6 (enc := enc) (C := Try.checked) false ⟨#[], #[.agg #[.bool false, .int .i64 0, .slice none 0 0, .slice none 0 0, .slice none 0 0, .slice none 0 0], .int .i64 0, .int .i64 0, .int .i64 0], []⟩ 8 (by kernel_rfl) (by kernel_rfl) (by kernel_rfl) (by kernel_rfl)) ?_
  intro W base args ds gs before hval0 hW hcnd hsz0 _
  have hsz : (DataW.weightsEach Try.prog (Try.f6.params.toList ++ Rows.writeOtherSpec.plain.varTypes Try.prog) (ds ++ gs)).all (· ≤ reachBytes) = true := hsz0
  have hval : ∀ (j : Nat) t v, Try.f6.params[j]? = some t → args[j]? = some v → Value.okWide Try.prog W .any base t v := hval0
  have hW' := hW
  obtain ⟨p, q, hA0, hV, rfl, hfz, hnd⟩ := hW
  have hA : DataW.TrodAll enc Try.prog W 0 (fun _ => true) true Try.f6.params.toList args.toList ds p := hA0
  rw [Try.params6] at hA hval hsz
  obtain ⟨v0, vs0, d0, ds0, p0, q0, hargs, rfl, rfl, h0, r0⟩ := trodAll_cons hA
  obtain ⟨v1, vs1, d1, ds1, p1, q1, rfl, rfl, rfl, h1, r1⟩ := trodAll_cons r0
  obtain ⟨v2, vs2, d2, ds2, p2, q2, rfl, rfl, rfl, h2, r2⟩ := trodAll_cons r1
  obtain ⟨v3, vs3, d3, ds3, p3, q3, rfl, rfl, rfl, h3, r3⟩ := trodAll_cons r2
  obtain ⟨rfl, rfl, rfl⟩ := trodAll_nil r3
  obtain rfl : args = #[v0, v1, v2, v3] := by cases args; simp_all
  obtain ⟨rfl, rfl⟩ := trodVars_none hV
  clear r0 r1 r2 r3
  have k0 := h0
  have lt0 : ∀ x ∈ p0, x.block < W.heap.size := by obtain ⟨m, hm⟩ := k0; exact DataW.trod_lt m _ _ _ hm
  have z0 : ∀ n ∈ d0.weights Try.prog 29, n ≤ reachBytes := fun n hn => by simpa using List.all_eq_true.1 hsz _ (DataW.weights_mem_each (j := 0) rfl rfl n hn)
  have f0 : W.noneFrozen p0 := fun b off hm => hfz b off (by simp [hm])
  have k1 := h1
  have lt1 : ∀ x ∈ p1, x.block < W.heap.size := by obtain ⟨m, hm⟩ := k1; exact DataW.trod_lt m _ _ _ hm
  have k2 := h2
  have lt2 : ∀ x ∈ p2, x.block < W.heap.size := by obtain ⟨m, hm⟩ := k2; exact DataW.trod_lt m _ _ _ hm
  have k3 := h3
  have lt3 : ∀ x ∈ p3, x.block < W.heap.size := by obtain ⟨m, hm⟩ := k3; exact DataW.trod_lt m _ _ _ hm
  obtain ⟨x0, r0, h0, s0, t0, u0, y0, w0, i0, j0, m0, n0⟩ := open_node (hval 0 29 v0 rfl rfl) h0 f0 z0
  obtain ⟨a1, rfl, rfl, rfl, w1⟩ := open_int Try.underlying3 (hval 1 3 v1 rfl rfl) h1
  obtain ⟨a2, rfl, rfl, rfl, w2⟩ := open_int Try.underlying3 (hval 2 3 v2 rfl rfl) h2
  obtain ⟨a3, rfl, rfl, rfl, w3⟩ := open_int Try.underlying3 (hval 3 3 v3 rfl rfl) h3
  clear hA0 hval0
  refine (walk v0 x0 a1 a2 a3 W r0 h0 s0 t0 u0 y0 w0 i0 j0 m0 n0 w1 w2 w3).mono fun e W' ⟨he, bel⟩ => ?_
  subst he
  exact ⟨_, rfl, _, _, _, [], _, [], hW', trodAll_mk1 (shut_bool Try.underlying4 _), (trodAll_cons_mk (Below.trod laidOut (by kernel_rfl) (of_decide_eq_true (by kernel_rfl)) k0 bel lt0) (trodAll_cons_mk (Below.trod laidOut (by kernel_rfl) (of_decide_eq_true (by kernel_rfl)) k1 bel lt1) (trodAll_cons_mk (Below.trod laidOut (by kernel_rfl) (of_decide_eq_true (by kernel_rfl)) k2 bel lt2) (trodAll_cons_mk (Below.trod laidOut (by kernel_rfl) (of_decide_eq_true (by kernel_rfl)) k3 bel lt3) trodAll_mk0)))), rfl, bel.frame _, fun h => by cases h⟩

theorem over : Rows.writeOtherRow.holds Try.pinned (OpenSpec.ofChange Rows.writeOtherSpec) :=
  OpenClaim.holds_of_wide 6 Try.f6 rfl rfl rfl rfl rfl rfl rfl ⟨rfl, rfl, rfl, rfl, rfl⟩ rfl rfl rfl rfl rfl (by kernel_rfl) Try.func6 (by kernel_rfl)
    (of_decide_eq_true (by kernel_rfl)) (by unfold Func.isWrapper; first | (rw [if_pos (by decide +kernel)]; kernel_rfl) | (rw [if_neg (by decide +kernel)]; exact ⟨rfl, rfl⟩))
    (fun os started H enc _ => lifted os started H enc)

end Go.Proofs.Ytgakfbdaiogflaa.writeOther

namespace Go.Proofs.Ytgakfbdaiogflaa
/-- The statement, by its short name. -/
theorem writeOther_holds : Rows.WriteOtherSaid := writeOther.over
#print axioms writeOther_holds
end Go.Proofs.Ytgakfbdaiogflaa
