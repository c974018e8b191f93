
/-
  The statement ShareOnce: at any node, each of its items goes to one node that it knows, in the items' row, in a message that may be; a node that knows nobody sends none.
-/
import Derived.Test.YtnadallefpahjaaRows
import Derived.Test.YtnadallefpahjaaOpen
import Derived.Test.YtnadallefpahjaaShareLaw
import Derived.Test.YtnadallefpahjaaShareMath
import Derived.Test.YtnadallefpahjaaMsgRef
import Derived.Test.YtnadallefpahjaaOpenN
import Derived.Deep.DeepCutAuto
import Derived.Deep.CutRange
import Derived.Deep.CutBlock
namespace Go.Proofs.Ytnadallefpahjaa.shareOnce
open Go.ChangeShapes Go.WideShapes Go.ChangeAt Go.RowKit
set_option linter.unusedVariables false

/-! ### The walk -/
set_option maxRecDepth 20000 in
set_option maxHeartbeats 8000000 in
theorem walk (v0 : Value) (x0 : NdO) (w : World) (r0 : v0 = .agg #[.bool x0.up, .int .i64 x0.v.i, x0.v.p, x0.v.q, x0.r, x0.s]) (h0 : NdAt 0 w.heap.size w x0.v.p x0.v.q x0.r x0.s x0.v.ps x0.v.is x0.ts x0.ls) (s0 : x0.v.ps.length * 16 ≤ 140737488351232) (t0 : x0.v.is.length * 8 ≤ 140737488351232) (u0 : x0.ts.length * 40 ≤ 140737488351232) (y0 : x0.ls.length * 24 ≤ 140737488351232) (w0 : (Lit.int .i64 x0.v.i).wf = true) (i0 : ∀ y ∈ x0.v.ps, PeW y) (j0 : ∀ y ∈ x0.v.is, (Lit.int .i64 y).wf = true) (m0 : ∀ y ∈ x0.ts, ItW y) (n0 : ∀ y ∈ x0.ls, TeW y) :
    Calls Try.prog 4 #[v0] w fun e w' => e = .returned (.bool true) ∧ Below w.heap.size w w' := by
  obtain ⟨up, ⟨ni, ps, is, p, q⟩, ts, ls, r, s⟩ := x0
  dsimp only at r0 h0 s0 t0 u0 y0
  subst r0
  clear w0 i0 j0 m0 n0
  have NN := toHid (fun (W : World) (hb : Below w.heap.size w W) => h0.below hb (Nat.le_refl _))
  have HM := toHid (fun (W : World) (hb : Below w.heap.size w W) => rNodeMay_any up ni (h0.below hb (Nat.le_refl _)) hb.size s0 t0 u0 y0)
  have s1 := toHid s0
  have H2 := toHid (fun (W : World) (hb : Below w.heap.size w W) => sOf_any up ni (h0.below hb (Nat.le_refl _)) hb.size)
  obtain ⟨a, c, a', c', a2, c2, a3, c3, rfl, rfl, rfl, rfl⟩ := h0.shape
  have BM := toHid (Box.new w #[.bool up, .int .i64 ni, .slice a ps.length c, .slice a' is.length c', .slice a2 ts.length c2, .slice a3 ls.length c3] 29)
  have hB := toHid ((Below.refl _ w).onA (.cells #[.bool up, .int .i64 ni, .slice a ps.length c, .slice a' is.length c', .slice a2 ts.length c2, .slice a3 ls.length c3] 29))
  clear h0 s0 t0 u0 y0
  go_enter Try.func4, Try.ntmps4
  go_upto_region 1 with (fail)
  generalize w.alloc (.cells #[.bool up, .int .i64 ni, .slice a ps.length c, .slice a' is.length c', .slice a2 ts.length c2, .slice a3 ls.length c3] 29) = wA at BM hB ⊢
  go_upto_region 3 with (go_at_call 16; refine (awake18_any _).mono ?_; rintro e w1 ⟨rfl, h1⟩)
  replace BM := toHid (BM.out.below h1)
  replace hB := toHid (hB.out.on h1)
  clear h1
  obtain ⟨m1, m2, m3⟩ := BM.out
  cases hn : (up && ndB ⟨up, ni, ps, is, ts, ls⟩) with
  | false =>
    rw [hn] at H2
    clear hn HM s1 NN
    go_wp2_with (first
      | (go_at_call 10; refine (H2.out _ hB.out).mono ?_; rintro e w2 ⟨v, rfl, O, h2⟩
         obtain ⟨v1, v2, rfl⟩ := O.cap
         have k2 := toHid (hB.out.on h2)
         clear h2 O)
      | (go_at_call 13; refine (num_any _ _).mono ?_; rintro e w' ⟨rfl, hw'⟩; subst w'))
    go_ret
    exact ⟨rfl, k2.out⟩
  | true =>
    rw [hn] at H2
    have hn2 := hn
    simp only [Bool.and_eq_true] at hn2
    obtain ⟨rfl, hnd⟩ := hn2
    rw [hnd] at HM
    clear hn
    rw [ndB_up] at hnd
    simp only [Bool.and_eq_true] at hnd
    obtain ⟨hv, hst, -⟩ := hnd
    have hval := toHid (stB_iff.1 hst).1
    have hlt16 := (stB_iff.1 hst).2.2
    have hps16 := vw_len hv
    clear hst
    by_cases hp : ps = []
    · subst hp
      rw [if_pos rfl, shL_none hv hval.out] at H2
      clear HM s1 NN hv hval
      go_wp2_with (first
        | (go_at_call 10; refine (H2.out _ hB.out).mono ?_; rintro e w2 ⟨v, rfl, O, h2⟩
           obtain ⟨v1, v2, rfl⟩ := O.cap
           have k2 := toHid (hB.out.on h2)
           replace BM := toHid (BM.out.below h2)
           clear h2 O m1 m2 m3
           obtain ⟨m1, m2, m3⟩ := BM.out)
        | (go_at_call 13; refine (num_any _ _).mono ?_; rintro e w' ⟨rfl, hw'⟩; subst w'))
      go_ret
      exact ⟨rfl, k2.out⟩
    have hp0 : 0 < ps.length := List.length_pos_iff.2 hp
    have hp1 : ((ps.length : Int) == 0) = false := by simp; omega
    have hp2 : ¬ (ps.length : Int) = 0 := by omega
    simp only [if_true, shL_map hv hp hval.out] at H2
    replace hv := toHid hv
    go_upto_block 0 with (first
      | (go_at_call 10; refine (H2.out _ hB.out).mono ?_; rintro e w2 ⟨v, rfl, O, h2⟩
         obtain ⟨v1, v2, ev⟩ := O.cap
         rw [List.length_map] at ev
         subst ev
         have k2 := toHid (hB.out.on h2)
         have RX := toHid (O.row.wide (Nat.zero_le _) (Nat.le_refl _))
         replace BM := toHid (BM.out.below h2)
         clear h2 O m1 m2 m3
         obtain ⟨m1, m2, m3⟩ := BM.out)
      | (go_at_call 13; refine (num_any _ _).mono ?_; rintro e w' ⟨rfl, hw'⟩; subst w'))
    clear m1 m2 m3 H2 hp1 hp2
    have hLis : Hid (∀ m ∈ ts.map (shM ni ps is), m.is = []) := toHid (fun m hm => by obtain ⟨z, -, rfl⟩ := List.mem_map.1 hm; rfl)
    have HK := toHid (fun (k : Int) (hk : plB k = true) => sh_some hv.out hp k hk)
    have HMM := toHid (fun (z : It) (hz : itB z = true) => shM_may hv.out hp hz)
    replace hp := toHid hp
    go_wp2
    go_loopw [5] (fun j wr => ∃ m : Nat, m ≤ ts.length ∧ j = .int .i64 m ∧ Below w2.heap.size w2 wr) (fun j _ => ts.length - (intOf j).toNat)
    case atStart => exact ⟨0, Nat.zero_le _, rfl, Below.refl _ _⟩
    case round =>
      obtain ⟨m, hm, rfl, hbr⟩ := hrel
      by_cases hlt : m < ts.length
      · have hlt' : (m : Int) < (ts.length : Int) := by omega
        have hm0 : 0 ≤ (m : Int) := by omega
        obtain ⟨p3, c3', ev, hp3⟩ := (RX.out.below hbr (Nat.le_refl _)).sm hLis.out
        rw [List.length_map] at ev
        obtain ⟨bb, off, rfl, -, hbb, hc⟩ := hp3 (by rw [List.length_map]; omega)
        cases ev
        have cz := hc m (by rw [List.length_map]; exact hlt)
        rw [List.getElem_map] at cz
        have hzv := hval.out ts[m] (List.getElem_mem hlt)
        obtain ⟨p4, c4', ev, -, hp4⟩ := ((NN.out _ (k2.out.on hbr)).ts).its (k2.out.on hbr).size
        obtain ⟨bi, oi, rfl, -, hbi, hci⟩ := hp4 (by omega)
        cases ev
        have czi := hci m hlt
        rw [getD_in _ _ hlt] at czi
        obtain ⟨p5, c5', ev, -, hp5⟩ := ((NN.out _ (k2.out.on hbr)).vw.ps).pes (k2.out.on hbr).size
        obtain ⟨bp, op, rfl, -, hbp, hcp⟩ := hp5 hp0
        cases ev
        obtain ⟨z, hz⟩ : ∃ z, ts[m] = z := ⟨_, rfl⟩
        rw [hz] at cz czi hzv
        have hkp := it_key hzv
        have HMz := HMM.out z hzv
        have HKz := HK.out z.k hkp
        obtain ⟨T, hTe⟩ : ∃ T, shTo ni ps is z.k = T := ⟨_, rfl⟩
        rw [hTe] at HKz
        have HCZ := toHid (show SmAt wr bb (off + m * 11) ⟨1, ni, T, [], 0, z, false⟩ from hTe ▸ cz)
        have HCI := toHid czi
        have HMt := toHid (show mgB 1 ni T [] 0 z false = true from hTe ▸ HMz)
        obtain ⟨zk, zc, zu, zx, zg⟩ := z
        have c2' : wr.cell? ⟨bb, off + m * 11 + 2, none⟩ = some (.int .i64 T) := by obtain ⟨-, -, -, -, h, -⟩ := HCZ.out; exact h
        have HC2 := toHid c2'
        have HPE := toHid (fun (k : Nat) (hk : k < ps.length) => hcp k hk)
        have hKn : Hid (ps.any (fun p => decide (p.n = T)) = true) := toHid (by
          obtain ⟨p, hp, e⟩ := HKz
          exact List.any_eq_true.2 ⟨p, hp, decide_eq_true e⟩)
        have hkr := toHid (k2.out.on hbr)
        have BXr := toHid (BM.out.below hbr)
        replace hbr := toHid hbr
        have zb := toHid hbb
        have zb2 := toHid hbi
        have zb3 := toHid hbp
        have zw := toHid hbr.out.size
        clear hc hp3 hp4 hp5 hci hcp cz czi hzv hz hkp HMz HKz hTe c2' hbb hbi hbp
        obtain ⟨x1, x2, x3⟩ := BXr.out
        go_wp2
        clear x1 x2 x3
        go_loopw [6, 7] (fun s6 s7 w' => ∃ k : Nat, k ≤ ps.length ∧ s6 = .bool ((ps.take k).any (fun p => decide (p.n = T))) ∧ s7 = .int .i64 k ∧ Below wr.heap.size wr w') (fun _ s7 _ => ps.length - (intOf s7).toNat)
        case atStart => exact ⟨0, Nat.zero_le _, rfl, rfl, Below.refl _ _⟩
        case round =>
          obtain ⟨k, hk, rfl, rfl, hbk⟩ := hrel
          obtain ⟨x1, x2, x3⟩ := BXr.out.below hbk
          by_cases hltk : k < ps.length
          · have hltk' : (k : Int) < (ps.length : Int) := by omega
            have hk0 : 0 ≤ (k : Int) := by omega
            obtain ⟨y1, -⟩ := (HPE.out k hltk).below hbk zb3.out
            have y2 := (hbk.cell (p := ⟨bb, off + m * 11 + 2, none⟩) (Nat.lt_of_lt_of_le zb.out zw.out)).trans HC2.out
            have hst : (ps.take (k + 1)).any (fun p => decide (p.n = T)) = ((ps.take k).any (fun p => decide (p.n = T)) || decide ((ps.getD k ⟨0, 0⟩).n = T)) := by
              rw [List.take_add_one, List.getElem?_eq_getElem hltk, List.any_append, getD_in _ _ hltk]
              simp
            generalize (ps.getD k ⟨0, 0⟩).n = P at y1 hst
            generalize (ps.take k).any (fun p => decide (p.n = T)) = b0 at hst ⊢
            replace hbk := toHid hbk
            cases b0 with
            | true =>
              have hN : Hid ((ps.take (k + 1)).any (fun p => decide (p.n = T)) = true) := toHid (by rw [hst]; rfl)
              clear hst
              go_wp2
              go_quiet (fail)
              go_wp2
              go_roundw
              case rel => exact ⟨k + 1, by omega, by rw [hN.out], by go_num, hbk.out.onD nq⟩
              case measure => simp [intOf]; omega
            | false =>
              by_cases hPT : P = T
              · have hPT2 : (P == T) = true := by simpa using hPT
                have hN : Hid ((ps.take (k + 1)).any (fun p => decide (p.n = T)) = true) := toHid (by rw [hst, decide_eq_true hPT]; rfl)
                clear hst
                go_wp2
                go_quiet (fail)
                go_wp2
                go_roundw
                case rel => exact ⟨k + 1, by omega, by rw [hN.out], by go_num, hbk.out.onD nq⟩
                case measure => simp [intOf]; omega
              · have hPT2 : (P == T) = false := by simpa using hPT
                have hN : Hid ((ps.take (k + 1)).any (fun p => decide (p.n = T)) = false) := toHid (by rw [hst, decide_eq_false hPT]; rfl)
                clear hst
                go_wp2
                go_quiet (fail)
                go_wp2
                go_roundw
                case rel => exact ⟨k + 1, by omega, by rw [hN.out], by go_num, hbk.out.onD nq⟩
                case measure => simp [intOf]; omega
          · obtain rfl : k = ps.length := by omega
            rw [List.take_length, hKn.out]
            obtain ⟨q, d, e0, e1, e2, e3, e4, ⟨e5, e6, e7, e8, e9⟩, e10, hrow⟩ := HCZ.out
            obtain ⟨g0, g1, g2, g3, g4⟩ := HCI.out.below hbk zb2.out
            have hlb := Nat.lt_of_lt_of_le zb.out zw.out
            replace e0 := (hbk.cell (p := ⟨bb, off + m * 11, none⟩) hlb).trans e0
            replace e1 := (hbk.cell (p := ⟨bb, off + m * 11 + 1, none⟩) hlb).trans e1
            replace e2 := (hbk.cell (p := ⟨bb, off + m * 11 + 2, none⟩) hlb).trans e2
            replace e3 := (hbk.cell (p := ⟨bb, off + m * 11 + 3, none⟩) hlb).trans e3
            replace e4 := (hbk.cell (p := ⟨bb, off + m * 11 + 4, none⟩) hlb).trans e4
            replace e5 := (hbk.cell (p := ⟨bb, off + m * 11 + 5, none⟩) hlb).trans e5
            replace e6 := (hbk.cell (p := ⟨bb, off + m * 11 + 6, none⟩) hlb).trans e6
            replace e7 := (hbk.cell (p := ⟨bb, off + m * 11 + 7, none⟩) hlb).trans e7
            replace e8 := (hbk.cell (p := ⟨bb, off + m * 11 + 8, none⟩) hlb).trans e8
            replace e9 := (hbk.cell (p := ⟨bb, off + m * 11 + 9, none⟩) hlb).trans e9
            replace e10 := (hbk.cell (p := ⟨bb, off + m * 11 + 10, none⟩) hlb).trans e10
            dsimp only at e0 e1 e2 e3 e4 e5 e6 e7 e8 e9 e10 g0 g1 g2 g3 g4
            have hbs := Nat.lt_of_lt_of_le hlb hbk.size
            have his := Nat.lt_of_lt_of_le zb2.out hbk.size
            have hMM : Hid (∀ W : World, Calls Try.prog 17 #[.agg #[.int .i64 1, .int .i64 ni, .int .i64 T, .slice q 0 d, .int .i64 0, .int .i64 zk, .int .i64 zc, .int .i64 zu, .int .i64 zx, .bool zg, .bool false]] W fun e w' => e = .returned (.bool true) ∧ Below W.heap.size W w') := toHid (fun W => by
              have := rMsgMay_any (hrow W) 1 ni T 0 zk zc zu zx zg false
              rw [HMt.out] at this
              exact this)
            clear hlb hrow HCZ HCI HMt
            have hb3 := toHid hbk
            clear hbk
            go_wp2
            refine wp_region_below (by kernel_rfl) (by kernel_rfl) ?_
            repeat (first
              | go_big_quiet_skip
              | (go_big_quiet_want; go_big_quiet_op; go_big_quiet_on)
              | (refine wpQuiet_step (fun K hK => ?_)
                 go_simp
                 first
                   | (refine hK _ ?_; clear hK K)
                   | (refine ⟨_, fun w' hw' => rfl, hK _ ?_⟩; clear hK K)
                   | (apply Exists.intro
                      refine ⟨fun w' hw' => ?_, hK _ ?_⟩
                      · (obtain ⟨hc', hf'⟩ := bcell hw'
                         first
                           | (go_simp; rfl)
                           | (go_at_call 17; refine (hMM.out _).mono ?_; rintro e w9 ⟨rfl, h9⟩; exact ⟨rfl, hw'.on h9⟩))
                      clear hK K)))
            refine wpQuiet_nil ?_
            intro w5 h5
            have hr5 := toHid ((hbr.out.on hb3.out).on h5)
            clear x1 x2 x3 e0 e1 e2 e3 e4 e5 e6 e7 e8 e9 e10 g0 g1 g2 g3 g4 h5
            go_wp2
            exact ⟨⟨m + 1, by omega, by go_num, hr5.out⟩, by simp [intOf]; omega⟩
      · obtain rfl : m = ts.length := by omega
        have hlt' : ¬ (ts.length : Int) < (ts.length : Int) := by omega
        have hkr := toHid (k2.out.on hbr)
        obtain ⟨x1, x2, x3⟩ := BM.out.below hbr
        clear hbr
        go_wp2_with (go_at_call 18; refine (HM.out _ hkr.out).mono ?_; rintro e w9 ⟨rfl, h9⟩)
        go_ret
        exact ⟨rfl, hkr.out.on h9⟩

/-! ### The row's step -/
set_option maxRecDepth 100000 in
theorem lifted (os : Os) (started : os.Started) (H : Type) (enc : TypeId × Value → H) :
    ReturnsInHanded {} Try.checked os 4 .any (Rows.shareOnceSpec.pre6 enc Try.prog Try.f4 Rows.shareOnceRow.domain false) (Rows.shareOnceSpec.post enc Try.prog Try.f4 false true false false) := by
  refine returnsInHanded_of_change_sized (C := Try.checked) ownK started (by kernel_rfl) Try.func4
    (ChangeSpec.witness6 (enc := enc) (C := Try.checked) false ⟨#[], #[.agg #[.bool false, .int .i64 0, .slice none 0 0, .slice none 0 0, .slice none 0 0, .slice none 0 0]], []⟩ 8 (by kernel_rfl) (by kernel_rfl) (by kernel_rfl) (by kernel_rfl)) ?_
  intro W base args ds gs before hval0 hW hcnd hsz0 _
  have hsz : (DataW.weightsEach Try.prog (Try.f4.params.toList ++ Rows.shareOnceSpec.plain.varTypes Try.prog) (ds ++ gs)).all (· ≤ reachBytes) = true := hsz0
  have hval : ∀ (j : Nat) t v, Try.f4.params[j]? = some t → args[j]? = some v → Value.okWide Try.prog W .any base t v := hval0
  have hW' := hW
  obtain ⟨p, q, hA0, hV, rfl, hfz, hnd⟩ := hW
  have hA : DataW.TrodAll enc Try.prog W 0 (fun _ => true) true Try.f4.params.toList args.toList ds p := hA0
  rw [Try.params4] at hA hval hsz
  obtain ⟨v0, vs0, d0, ds0, p0, q0, hargs, rfl, rfl, h0, r0⟩ := trodAll_cons hA
  obtain ⟨rfl, rfl, rfl⟩ := trodAll_nil r0
  obtain rfl : args = #[v0] := by cases args; simp_all
  obtain ⟨rfl, rfl⟩ := trodVars_none hV
  clear r0
  have k0 := h0
  have lt0 : ∀ x ∈ p0, x.block < W.heap.size := by obtain ⟨m, hm⟩ := k0; exact DataW.trod_lt m _ _ _ hm
  have z0 : ∀ n ∈ d0.weights Try.prog 29, n ≤ reachBytes := fun n hn => by simpa using List.all_eq_true.1 hsz _ (DataW.weights_mem_each (j := 0) rfl rfl n hn)
  have f0 : W.noneFrozen p0 := fun b off hm => hfz b off (by simp [hm])
  obtain ⟨x0, r0, h0, s0, t0, u0, y0, w0, i0, j0, m0, n0⟩ := open_node (hval 0 29 v0 rfl rfl) h0 f0 z0
  clear hA0 hval0
  refine (walk v0 x0 W r0 h0 s0 t0 u0 y0 w0 i0 j0 m0 n0).mono fun e W' ⟨he, bel⟩ => ?_
  subst he
  exact ⟨_, rfl, _, _, _, [], _, [], hW', trodAll_mk1 (shut_bool Try.underlying4 _), (trodAll_cons_mk (Below.trod laidOut (by kernel_rfl) (of_decide_eq_true (by kernel_rfl)) k0 bel lt0) trodAll_mk0), rfl, bel.frame _, fun h => by cases h⟩

theorem over : Rows.shareOnceRow.holds Try.pinned (OpenSpec.ofChange Rows.shareOnceSpec) :=
  OpenClaim.holds_of_wide 4 Try.f4 rfl rfl rfl rfl rfl rfl rfl ⟨rfl, rfl, rfl, rfl, rfl⟩ rfl rfl rfl rfl rfl (by kernel_rfl) Try.func4 (by kernel_rfl)
    (of_decide_eq_true (by kernel_rfl)) (by unfold Func.isWrapper; first | (rw [if_pos (by decide +kernel)]; kernel_rfl) | (rw [if_neg (by decide +kernel)]; exact ⟨rfl, rfl⟩))
    (fun os started H enc _ => lifted os started H enc)

end Go.Proofs.Ytnadallefpahjaa.shareOnce

namespace Go.Proofs.Ytnadallefpahjaa
/-- The statement, by its short name. -/
theorem shareOnce_holds : Rows.ShareOnceSaid := shareOnce.over
#print axioms shareOnce_holds
end Go.Proofs.Ytnadallefpahjaa
