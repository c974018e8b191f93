
/-
  The statement ShareOwner: at any node, each message that Of answers goes to the owner of its key, or, where that is the node itself, to its successor, by the document's ring.
-/
import Derived.Test.YtnadallefpahjaaRows
import Derived.Test.YtnadallefpahjaaOpen
import Derived.Test.YtnadallefpahjaaShareLaw
import Derived.Test.YtnadallefpahjaaShareMath
import Derived.Test.YtnadallefpahjaaOpenN
import Derived.Deep.DeepCutAuto
import Derived.Deep.CutRange
import Derived.Deep.CutBlock
namespace Go.Proofs.Ytnadallefpahjaa.shareOwner
open Go.ChangeShapes Go.WideShapes Go.ChangeAt Go.RowKit
set_option linter.unusedVariables false

/-! ### The walk -/
set_option maxHeartbeats 8000000 in
theorem walk (v0 : Value) (x0 : NdO) (w : World) (r0 : v0 = .agg #[.bool x0.up, .int .i64 x0.v.i, x0.v.p, x0.v.q, x0.r, x0.s]) (h0 : NdAt 0 w.heap.size w x0.v.p x0.v.q x0.r x0.s x0.v.ps x0.v.is x0.ts x0.ls) (s0 : x0.v.ps.length * 16 ≤ 140737488351232) (t0 : x0.v.is.length * 8 ≤ 140737488351232) (u0 : x0.ts.length * 40 ≤ 140737488351232) (y0 : x0.ls.length * 24 ≤ 140737488351232) (w0 : (Lit.int .i64 x0.v.i).wf = true) (i0 : ∀ y ∈ x0.v.ps, PeW y) (j0 : ∀ y ∈ x0.v.is, (Lit.int .i64 y).wf = true) (m0 : ∀ y ∈ x0.ts, ItW y) (n0 : ∀ y ∈ x0.ls, TeW y) :
    Calls Try.prog 5 #[v0] w fun e w' => e = .returned (.bool true) ∧ Below w.heap.size w w' := by
  obtain ⟨up, ⟨ni, ps, is, p, q⟩, ts, ls, r, s⟩ := x0
  dsimp only at r0 h0 s0 t0 u0 y0
  subst r0
  clear w0 i0 j0 m0 n0
  have NN := toHid (fun (W : World) (hb : Below w.heap.size w W) => h0.below hb (Nat.le_refl _))
  have HM := toHid (fun (W : World) (hb : Below w.heap.size w W) => rNodeMay_any up ni (h0.below hb (Nat.le_refl _)) hb.size s0 t0 u0 y0)
  have s1 := toHid s0
  have H2 := toHid (fun (W : World) (hb : Below w.heap.size w W) => sOf_any up ni (h0.below hb (Nat.le_refl _)) hb.size)
  obtain ⟨a, c, a', c', a2, c2, a3, c3, rfl, rfl, rfl, rfl⟩ := h0.shape
  have BM := toHid (Box.new w #[.bool up, .int .i64 ni, .slice a ps.length c, .slice a' is.length c', .slice a2 ts.length c2, .slice a3 ls.length c3] 29)
  have hB := toHid ((Below.refl _ w).onA (.cells #[.bool up, .int .i64 ni, .slice a ps.length c, .slice a' is.length c', .slice a2 ts.length c2, .slice a3 ls.length c3] 29))
  clear h0 s0 t0 u0 y0
  go_enter Try.func5, Try.ntmps5
  go_upto_region 1 with (fail)
  generalize w.alloc (.cells #[.bool up, .int .i64 ni, .slice a ps.length c, .slice a' is.length c', .slice a2 ts.length c2, .slice a3 ls.length c3] 29) = wA at BM hB ⊢
  go_upto_region 3 with (go_at_call 16; refine (awake18_any _).mono ?_; rintro e w1 ⟨rfl, h1⟩)
  replace BM := toHid (BM.out.below h1)
  replace hB := toHid (hB.out.on h1)
  clear h1
  obtain ⟨m1, m2, m3⟩ := BM.out
  cases hn : (up && ndB ⟨up, ni, ps, is, ts, ls⟩) with
  | false =>
    rw [hn] at H2
    clear hn HM s1 NN
    go_wp2_with (first
      | (go_at_call 10; refine (H2.out _ hB.out).mono ?_; rintro e w2 ⟨v, rfl, O, h2⟩
         obtain ⟨v1, v2, rfl⟩ := O.cap
         have k2 := toHid (hB.out.on h2)
         clear h2 O)
      | (go_at_call 13; refine (num_any _ _).mono ?_; rintro e w' ⟨rfl, hw'⟩; subst w'))
    go_ret
    exact ⟨rfl, k2.out⟩
  | true =>
    rw [hn] at H2
    have hn2 := hn
    simp only [Bool.and_eq_true] at hn2
    obtain ⟨rfl, hnd⟩ := hn2
    rw [hnd] at HM
    clear hn
    rw [ndB_up] at hnd
    simp only [Bool.and_eq_true] at hnd
    obtain ⟨hv, hst, -⟩ := hnd
    have hval := toHid (stB_iff.1 hst).1
    have hlt16 := (stB_iff.1 hst).2.2
    clear hst
    replace hv := toHid hv
    go_upto_region 6 with (first
      | (go_at_call 10; refine (H2.out _ hB.out).mono ?_; rintro e w2 ⟨v, rfl, O, h2⟩
         rw [if_pos rfl] at O
         obtain ⟨v1, v2, rfl⟩ := O.cap
         have k2 := toHid (hB.out.on h2)
         have RX := toHid (O.row.wide (Nat.zero_le _) (Nat.le_refl _))
         replace BM := toHid (BM.out.below h2)
         clear h2 O m1 m2 m3
         obtain ⟨m1, m2, m3⟩ := BM.out)
      | (go_at_call 13; refine (num_any _ _).mono ?_; rintro e w' ⟨rfl, hw'⟩; subst w'))
    clear H2
    have hE0 : Hid (vwE ni ps is = 0) := toHid (by rw [vwE, if_pos hv.out])
    have HS := toHid (fun (W : World) (hb : Below w.heap.size w W) => rSucc_any ni (NN.out _ hb).vw hb.size s1.out)
    rw [hE0.out] at HS
    have HO := toHid (fun (W : World) (hb : Below w.heap.size w W) (k : Int) => rVOwner_any ni k (NN.out _ hb).vw hb.size s1.out)
    have hLn := shL_len ni ps is ts
    have HX := toHid (fun (m : Nat) (hm : m < (shL ni ps is ts).length) => sh_at (i := ni) (ps := ps) (is := is) (ts := ts) hm)
    have hLn2 : Hid ((shL ni ps is ts).length ≤ 16) := toHid (by omega)
    obtain ⟨L, hL⟩ : ∃ L, shL ni ps is ts = L := ⟨_, rfl⟩
    have hLis : Hid (∀ m ∈ L, m.is = []) := toHid (hL ▸ shL_is ni ps is ts)
    rw [hL] at RX HX hLn2 ⊢
    clear hL hLn hE0
    obtain ⟨sv, hsv⟩ : ∃ sv, sucV ni ps is = sv := ⟨_, rfl⟩
    rw [hsv] at HS
    replace hsv := toHid hsv
    go_upto_block 0 with (first
      | (go_at_call 19; refine (HS.out _ k2.out).mono ?_; rintro e w3 ⟨rfl, h3⟩
         have k3 := toHid (k2.out.on h3)
         replace BM := toHid (BM.out.below h3)
         replace RX := toHid ((RX.out.below h3 (Nat.le_refl _)).wide (Nat.le_refl _) h3.size)
         clear h3 m1 m2 m3 k2))
    go_wp2
    go_loopw [7] (fun j wr => ∃ m : Nat, m ≤ L.length ∧ j = .int .i64 m ∧ Below w3.heap.size w3 wr) (fun j _ => L.length - (intOf j).toNat)
    case atStart => exact ⟨0, Nat.zero_le _, rfl, Below.refl _ _⟩
    case round =>
      obtain ⟨m, hm, rfl, hbr⟩ := hrel
      have hkr := toHid (k3.out.on hbr)
      have BXr := toHid (BM.out.below hbr)
      have RXr := RX.out.below hbr (Nat.le_refl _)
      obtain ⟨x1, x2, x3⟩ := BXr.out
      by_cases hlt : m < L.length
      · have hlt' : (m : Int) < (L.length : Int) := by omega
        have hm0 : 0 ≤ (m : Int) := by omega
        obtain ⟨p3, c3', ev, hp3⟩ := RXr.sm hLis.out
        obtain ⟨bb, off, rfl, -, hbb, hc⟩ := hp3 (by omega)
        cases ev
        have cz := hc m hlt
        obtain ⟨z, hz, hze, hT⟩ := HX.out m hlt
        have hkp := it_key (hval.out z hz)
        rw [hze] at cz
        have HOz := toHid (fun (W : World) (hb : Below w.heap.size w W) => HO.out W hb z.k)
        have hOE : owE ni ps is z.k = 0 := by rw [owE, if_pos ⟨hv.out, hkp⟩]
        rw [hOE] at HOz
        obtain ⟨T, hTe⟩ : ∃ T, shTo ni ps is z.k = T := ⟨_, rfl⟩
        have hTT : T = if owV ni ps is z.k = ni then sv else owV ni ps is z.k := by rw [← hTe, shTo, hsv.out]
        obtain ⟨zk, zc, zu, zx, zg⟩ := z
        dsimp only at HOz hTe hTT
        have CZ := toHid cz
        obtain ⟨-, -, -, -, c2', -, -, ⟨c5, -, -, -, -⟩, -⟩ := cz
        dsimp only [shM] at c2' c5
        rw [hTe] at c2'
        have hxw : w.heap.size < wr.heap.size := x1
        clear hc hp3 hz hze hT hkp hOE hTe
        generalize owV ni ps is zk = V at HOz hTT
        have hbw : bb < wr.heap.size := by have := hbr.size; omega
        replace CZ := toHid (And.intro c2' c5)
        go_wp2
        refine wp_region_below (by kernel_rfl) (by kernel_rfl) ?_
        repeat (first
          | go_big_quiet_skip
          | (go_big_quiet_want; go_big_quiet_op; go_big_quiet_on)
          | (refine wpQuiet_step (fun K hK => ?_)
             go_simp
             first
               | (refine hK _ ?_; clear hK K)
               | (refine ⟨_, fun w' hw' => rfl, hK _ ?_⟩; clear hK K)
               | (apply Exists.intro
                  refine ⟨fun w' hw' => ?_, hK _ ?_⟩
                  · (obtain ⟨hc', hf'⟩ := bcell hw'
                     first
                       | (go_simp; rfl)
                       | (go_at_call 20; refine (HOz.out _ (hkr.out.on hw')).mono ?_; rintro e w9 ⟨rfl, h9⟩; exact ⟨rfl, hw'.on h9⟩))
                  clear hK K)))
        refine wpQuiet_nil ?_
        intro w5 h5
        have hbr5 := toHid (hbr.on h5)
        have BX5 := toHid (BXr.out.below h5)
        have d2 := (h5.cell (p := ⟨bb, off + m * 11 + 2, none⟩) hbw).trans c2'
        clear x1 x2 x3 c2' c5 hbr BXr HOz h5 hkr hxw CZ
        obtain ⟨x1, x2, x3⟩ := BX5.out
        have hL16 := hLn2.out
        by_cases hvi : V = ni
        · have e : T = sv := by rw [hTT, if_pos hvi]
          clear hTT
          subst e hvi
          go_wp2
          go_roundw
          case rel => exact ⟨m + 1, by omega, by go_num, hbr5.out⟩
          case measure => simp [intOf]; omega
        · have hv2 : (V == ni) = false := by simpa using hvi
          have e : T = V := by rw [hTT, if_neg hvi]
          clear hTT
          subst e
          go_wp2
          go_roundw
          case rel => exact ⟨m + 1, by omega, by go_num, hbr5.out⟩
          case measure => simp [intOf]; omega
      · obtain rfl : m = L.length := by omega
        have hlt' : ¬ (L.length : Int) < (L.length : Int) := by omega
        clear RXr
        go_wp2_with (go_at_call 18; refine (HM.out _ hkr.out).mono ?_; rintro e w9 ⟨rfl, h9⟩)
        go_ret
        exact ⟨rfl, hkr.out.on h9⟩

/-! ### The row's step -/
set_option maxRecDepth 100000 in
theorem lifted (os : Os) (started : os.Started) (H : Type) (enc : TypeId × Value → H) :
    ReturnsInHanded {} Try.checked os 5 .any (Rows.shareOwnerSpec.pre6 enc Try.prog Try.f5 Rows.shareOwnerRow.domain false) (Rows.shareOwnerSpec.post enc Try.prog Try.f5 false true false false) := by
  refine returnsInHanded_of_change_sized (C := Try.checked) ownK started (by kernel_rfl) Try.func5
    (ChangeSpec.witness6 (enc := enc) (C := Try.checked) false ⟨#[], #[.agg #[.bool false, .int .i64 0, .slice none 0 0, .slice none 0 0, .slice none 0 0, .slice none 0 0]], []⟩ 8 (by kernel_rfl) (by kernel_rfl) (by kernel_rfl) (by kernel_rfl)) ?_
  intro W base args ds gs before hval0 hW hcnd hsz0 _
  have hsz : (DataW.weightsEach Try.prog (Try.f5.params.toList ++ Rows.shareOwnerSpec.plain.varTypes Try.prog) (ds ++ gs)).all (· ≤ reachBytes) = true := hsz0
  have hval : ∀ (j : Nat) t v, Try.f5.params[j]? = some t → args[j]? = some v → Value.okWide Try.prog W .any base t v := hval0
  have hW' := hW
  obtain ⟨p, q, hA0, hV, rfl, hfz, hnd⟩ := hW
  have hA : DataW.TrodAll enc Try.prog W 0 (fun _ => true) true Try.f5.params.toList args.toList ds p := hA0
  rw [Try.params5] at hA hval hsz
  obtain ⟨v0, vs0, d0, ds0, p0, q0, hargs, rfl, rfl, h0, r0⟩ := trodAll_cons hA
  obtain ⟨rfl, rfl, rfl⟩ := trodAll_nil r0
  obtain rfl : args = #[v0] := by cases args; simp_all
  obtain ⟨rfl, rfl⟩ := trodVars_none hV
  clear r0
  have k0 := h0
  have lt0 : ∀ x ∈ p0, x.block < W.heap.size := by obtain ⟨m, hm⟩ := k0; exact DataW.trod_lt m _ _ _ hm
  have z0 : ∀ n ∈ d0.weights Try.prog 29, n ≤ reachBytes := fun n hn => by simpa using List.all_eq_true.1 hsz _ (DataW.weights_mem_each (j := 0) rfl rfl n hn)
  have f0 : W.noneFrozen p0 := fun b off hm => hfz b off (by simp [hm])
  obtain ⟨x0, r0, h0, s0, t0, u0, y0, w0, i0, j0, m0, n0⟩ := open_node (hval 0 29 v0 rfl rfl) h0 f0 z0
  clear hA0 hval0
  refine (walk v0 x0 W r0 h0 s0 t0 u0 y0 w0 i0 j0 m0 n0).mono fun e W' ⟨he, bel⟩ => ?_
  subst he
  exact ⟨_, rfl, _, _, _, [], _, [], hW', trodAll_mk1 (shut_bool Try.underlying4 _), (trodAll_cons_mk (Below.trod laidOut (by kernel_rfl) (of_decide_eq_true (by kernel_rfl)) k0 bel lt0) trodAll_mk0), rfl, bel.frame _, fun h => by cases h⟩

theorem over : Rows.shareOwnerRow.holds Try.pinned (OpenSpec.ofChange Rows.shareOwnerSpec) :=
  OpenClaim.holds_of_wide 5 Try.f5 rfl rfl rfl rfl rfl rfl rfl ⟨rfl, rfl, rfl, rfl, rfl⟩ rfl rfl rfl rfl rfl (by kernel_rfl) Try.func5 (by kernel_rfl)
    (of_decide_eq_true (by kernel_rfl)) (by unfold Func.isWrapper; first | (rw [if_pos (by decide +kernel)]; kernel_rfl) | (rw [if_neg (by decide +kernel)]; exact ⟨rfl, rfl⟩))
    (fun os started H enc _ => lifted os started H enc)

end Go.Proofs.Ytnadallefpahjaa.shareOwner

namespace Go.Proofs.Ytnadallefpahjaa
/-- The statement, by its short name. -/
theorem shareOwner_holds : Rows.ShareOwnerSaid := shareOwner.over
#print axioms shareOwner_holds
end Go.Proofs.Ytnadallefpahjaa
