
/-
  The statement AgeKeeps: of any view that may be, all whom it knew are known and greeted behind a tick, each of them once, and its own place stays; a view that may not be is refused, with nothing.
-/
import Derived.Test.YtagojonjohimfaaRows
import Derived.Test.YtagojonjohimfaaOpen
import Derived.Test.YtagojonjohimfaaAgeLaw
import Derived.Test.YtagojonjohimfaaAgeSeen
import Derived.Test.YtagojonjohimfaaRingRef
import Derived.Test.YtagojonjohimfaaOpenV
import Derived.Deep.DeepCutAuto
import Derived.Deep.CutRange
import Derived.Deep.CutBlock
namespace Go.Proofs.Ytagojonjohimfaa.ageKeeps
open Go.ChangeShapes Go.WideShapes Go.ChangeAt Go.RowKit
set_option linter.unusedVariables false

/-! ### The walk -/
set_option maxRecDepth 20000 in
set_option maxHeartbeats 8000000 in
theorem walk (v0 : Value) (x0 : VwO) (w : World) (r0 : v0 = .agg #[.int .i64 x0.i, x0.p, x0.q]) (w0 : (Lit.int .i64 x0.i).wf = true) (h0 : VwAt 0 w.heap.size w x0.p x0.q x0.ps x0.is) (s0 : x0.ps.length * 16 ≤ 140737488351232) (t0 : x0.is.length * 8 ≤ 140737488351232) (u0 : ∀ y ∈ x0.ps, PeW y) (y0 : ∀ y ∈ x0.is, (Lit.int .i64 y).wf = true) :
    Calls Try.prog 4 #[v0] w fun e w' => e = .returned (.bool true) ∧ Below w.heap.size w w' := by
  obtain ⟨i, ps, is, p, q⟩ := x0
  dsimp only at r0 w0 h0 s0 t0 u0 y0
  subst r0
  clear w0 u0 y0 t0 s0
  have VV := toHid (fun (o : Obj) (w1 : World) (hb : Below (w.alloc o).heap.size (w.alloc o) w1) => (h0.alloc o).below hb (by simp))
  have B1 := toHid (fun (cs : Array Value) (t : TypeId) => Box.new w cs t)
  have HP := toHid (h0.ps.pes (Nat.le_refl _))
  have HI := toHid (h0.is.ints (Nat.le_refl _))
  obtain ⟨a, c, a', c', ep, eq, hn, hn'⟩ := h0.shape
  subst ep eq
  clear h0
  rcases Bool.eq_false_or_eq_true (vwB i ps is) with hB | hB
  · have hpl := toHid (fun (x : Int) (hx : x ∈ tkG (ps, is)) => tkG_place (i := i) (s := (ps, is)) hB hx)
    have hnd := toHid (tkG_nodup (i := i) (s := (ps, is)) hB)
    have hme := toHid (tkG_mem (i := i) (s := (ps, is)) hB)
    have hln : (tkG (ps, is)).length = ps.length + is.length := tkG_len (i := i) (s := (ps, is)) hB
    have hsz : (tkS (ps, is)).1.length + (tkS (ps, is)).2.length = ps.length + is.length := tk_size (i := i) (s := (ps, is)) hB
    obtain ⟨e1, e2, e3, e4⟩ := tk_yes (s := (ps, is)) hB
    obtain ⟨gs, hgs⟩ : ∃ gs, tkG (ps, is) = gs := ⟨_, rfl⟩
    obtain ⟨⟨u1, u2⟩, hu⟩ : ∃ s, tkS (ps, is) = s := ⟨_, rfl⟩
    rw [hgs] at hpl hnd hme hln e3
    rw [hu] at hsz e2
    dsimp only at hsz
    have hl : ps.length + is.length ≤ 16 := (vwB_iff.1 hB).2.2.1
    have hl2 : u1.length + u2.length ≤ 16 := by omega
    have hN1 : (gs.length : Int) = (ps.length : Int) + (is.length : Int) := by omega
    have hN2 : (u1.length : Int) + (u2.length : Int) = (ps.length : Int) + (is.length : Int) := by omega
    have KT := toHid (fun (o : Obj) (w1 : World) (hb : Below (w.alloc o).heap.size (w.alloc o) w1) => aTick_at (VV.out o w1 hb) (Nat.le_trans (by simp) hb.size) e1 e2 e3 e4 rfl rfl rfl)
    replace hln := toHid hln
    clear e1 e2 e3 e4 hgs hu hsz hB VV
    go_enter Try.func4, Try.ntmps4
    go_upto_region 8 with (first
      | (go_at_call 15; refine (awake11_any _).mono ?_; rintro e w1 ⟨rfl, hk⟩
         obtain ⟨b1, b2, b3⟩ := (B1.out _ _).below hk)
      | (go_at_call 8; refine (KT.out _ _ hk).mono ?_; rintro e w2 ⟨a2, c2, a2', c2', b2', d2', rfl, X2, h2⟩
         have z2 := hk.size
         replace hk := hk.on h2
         replace X2 := toHid X2.row
         clear h2 b1 b2 b3
         obtain ⟨b1, b2, b3⟩ := (B1.out _ _).below hk)
      | (go_at_call 12; refine (num_any _ _).mono ?_; rintro e w' ⟨rfl, hw'⟩; subst w'))
    apply wp_region_lit
    refine alloc256 rfl rfl ?_
    intro w3 BS hb3
    have BA := toHid ((Box.new w2 #[.int .i64 i, .slice a2 u1.length c2, .slice a2' u2.length c2'] 25).below hb3)
    have BV := toHid ((((B1.out _ _).below hk).alloc (.cells #[.int .i64 i, .slice a2 u1.length c2, .slice a2' u2.length c2'] 25)).below hb3)
    have R3 := toHid ((X2.out.alloc (.cells #[.int .i64 i, .slice a2 u1.length c2, .slice a2' u2.length c2'] 25)).below hb3 (by simp))
    have hbel := toHid (((((Below.refl _ w).onA _).on hk).onA (.cells #[.int .i64 i, .slice a2 u1.length c2, .slice a2' u2.length c2'] 25)).on hb3)
    have zz : w.heap.size < w2.heap.size := b1
    simp only [World.size_alloc] at BS
    replace BS := toHid BS
    clear b1 b2 b3 X2 hb3 hk KT B1 z2
    go_wp2
    generalize w2.heap.size = ba at *
    go_loopw [7] (fun j wr => ∃ k : Nat, k ≤ gs.length ∧ j = .int .i64 k ∧ Hid (Box wr (ba + 1) (seenC (gs.take k))) ∧ Hid (Only (ba + 1) (ba + 1 + 1) w3 wr)) (fun j _ => gs.length - (intOf j).toNat)
    case atStart => exact ⟨0, Nat.zero_le _, rfl, BS, toHid (Only.refl _ _ _)⟩
    case round =>
      clear BS
      obtain ⟨k, hk, rfl, BS, hO⟩ := hrel
      by_cases hlt : k < gs.length
      · obtain ⟨px, cx, ex, -, -, hcs⟩ := R3.out
        cases ex
        obtain ⟨gb, off, rfl, -, hgb, hcc⟩ := hcs (by intro e; simp [e] at hlt)
        have hmem : gs.getD k 0 ∈ gs := by rw [getD_in _ _ hlt]; exact List.getElem_mem hlt
        have hp := hpl.out _ hmem
        obtain ⟨z, hz, hz1, hz2⟩ := seen_nat hp
        have hnx := nodup_next hnd.out hlt
        have c1 := (hO.out.cell gb (off + k) (.inl (by omega))).trans (hcc k hlt).1
        have HS : Hid (gs.take (k + 1) = gs.take k ++ [gs.getD k 0]) := toHid (by rw [take_step hlt, ← getD_in _ 0 hlt])
        rw [hz] at hnx c1 HS hp
        have g1 := (BS.out.2.1 z).trans (seen_at _ z hz1)
        rw [decide_eq_false hnx] at g1
        have f1 := BS.out.2.2 z
        have HM := toHid (fun W => rPlaceMay_any (z : Int) W)
        rw [hp] at HM
        have hlt' : (k : Int) < (gs.length : Int) := by omega
        clear hcs hcc R3 hnx hmem hz hp hpl hnd hme HP HI BA BV
        go_wp2_with (first
          | (go_at_call 16; refine (HM.out _).mono ?_; rintro e w' ⟨rfl, hw'⟩; subst w'))
        go_roundw
        case rel => exact ⟨k + 1, by omega, by go_num, by rw [HS.out, seen_put]; exact toHid (BS.out.setS z (.bool true) (by rw [seen_size]; exact hz1) rfl), toHid (hO.out.setCell (Nat.le_refl _) (Nat.lt_succ_self _) (.bool true))⟩
        case measure => simp [intOf]; omega
      · obtain rfl : k = gs.length := by omega
        rw [List.take_length] at BS
        have hB2 := toHid (hbel.out.trans (hO.out.below.mono (by omega)))
        replace BV := BV.out.only hO.out (.inl (by omega))
        replace BA := BA.out.only hO.out (.inl (by omega))
        obtain ⟨b1, b2, b3⟩ := id BV
        obtain ⟨d1, d2, d3⟩ := id BA
        replace BV := toHid BV
        replace BA := toHid BA
        clear hO R3 hnd hbel hN1 hN2
        go_wp2
        go_loop [8] (fun j => ∃ k : Nat, k ≤ ps.length ∧ j = .int .i64 k) (fun j => ps.length - (intOf j).toNat)
        case atStart => exact ⟨0, Nat.zero_le _, rfl⟩
        case round =>
          obtain ⟨k, hk2, rfl⟩ := hrel
          by_cases hlt : k < ps.length
          · obtain ⟨px, cx, ex, -, hcs⟩ := HP.out
            cases ex
            obtain ⟨b, off, rfl, -, hb, h1⟩ := hcs (by omega)
            obtain ⟨c1, c2⟩ := (h1 k hlt).below hB2.out hb
            have hmem : (ps.getD k ⟨0, 0⟩).n ∈ gs := (hme.out _).2 (.inr (nmL_mem.2 ⟨_, by rw [getD_in _ _ hlt]; exact List.getElem_mem hlt, rfl⟩))
            obtain ⟨z, hz, hz1, hz2⟩ := seen_nat (hpl.out _ hmem)
            have hlt' : (k : Int) < (ps.length : Int) := by omega
            clear h1 hcs HP HI
            generalize ps.getD k ⟨0, 0⟩ = y at *
            obtain ⟨yn, ym⟩ := y
            dsimp only at c1 c2 hmem hz
            subst hz
            have g1 := (BS.out.2.1 z).trans (seen_at _ z hz1)
            rw [decide_eq_true hmem] at g1
            clear hmem d1 d2 d3
            go_wp2
            go_round
            case rel => exact ⟨k + 1, by omega, by go_num⟩
            case measure => simp [intOf]; omega
          · obtain rfl : k = ps.length := by omega
            clear HP
            go_wp2
            go_loop [9] (fun j => ∃ k : Nat, k ≤ is.length ∧ j = .int .i64 k) (fun j => is.length - (intOf j).toNat)
            case atStart => exact ⟨0, Nat.zero_le _, rfl⟩
            case round =>
              obtain ⟨k, hk3, rfl⟩ := hrel
              by_cases hlt : k < is.length
              · obtain ⟨px, cx, ex, -, hcs⟩ := HI.out
                cases ex
                obtain ⟨b, off, rfl, -, hb, h1⟩ := hcs (by omega)
                have c1 := (hB2.out.cell (p := ⟨b, off + k, none⟩) hb).trans (h1 k hlt)
                have hmem : is.getD k 0 ∈ gs := (hme.out _).2 (.inl (by rw [getD_in _ _ hlt]; exact List.getElem_mem hlt))
                obtain ⟨z, hz, hz1, hz2⟩ := seen_nat (hpl.out _ hmem)
                have hlt' : (k : Int) < (is.length : Int) := by omega
                clear h1 hcs HI
                rw [hz] at c1 hmem
                have g1 := (BS.out.2.1 z).trans (seen_at _ z hz1)
                rw [decide_eq_true hmem] at g1
                clear hmem hz d1 d2 d3
                go_wp2
                go_round
                case rel => exact ⟨k + 1, by omega, by go_num⟩
                case measure => simp [intOf]; omega
              · obtain rfl : k = is.length := by omega
                clear HI
                go_wp2
                go_ret
                exact ⟨rfl, hB2.out⟩
  · obtain ⟨e1, e2, e3, e4⟩ := tk_no (s := (ps, is)) hB
    have KT := toHid (fun (o : Obj) (w1 : World) (hb : Below (w.alloc o).heap.size (w.alloc o) w1) => aTick_at (n1 := 0) (n2 := 0) (n3 := 0) (VV.out o w1 hb) (Nat.le_trans (by simp) hb.size) e1 e2 e3 e4 rfl rfl rfl)
    clear e1 e2 e3 e4 hB VV HP HI
    go_enter Try.func4, Try.ntmps4
    go_wp2_with (first
      | (go_at_call 15; refine (awake11_any _).mono ?_; rintro e w1 ⟨rfl, hk⟩
         obtain ⟨b1, b2, b3⟩ := (B1.out _ _).below hk)
      | (go_at_call 8; refine (KT.out _ _ hk).mono ?_; rintro e w2 ⟨a2, c2, a2', c2', b2', d2', rfl, X2, h2⟩
         replace hk := hk.on h2
         replace X2 := toHid X2.vw.at
         clear h2 b1 b2 b3)
      | (go_at_call 10; refine (sameView_same 0 (X2.out.alloc _) (⟨RowC.nil0, RowI.nil0⟩ : VwAt 0 0 _ _ _ [] []) (by simp) (Nat.zero_le _)).mono ?_; rintro e w4 ⟨rfl, h4⟩)
      | (go_at_call 12; refine (num_any _ _).mono ?_; rintro e w' ⟨rfl, hw'⟩; subst w'))
    go_ret
    exact ⟨rfl, ((((Below.refl _ w).onA _).on hk).onA _).on h4⟩

/-! ### The row's step -/
set_option maxRecDepth 100000 in
theorem lifted (os : Os) (started : os.Started) (H : Type) (enc : TypeId × Value → H) :
    ReturnsInHanded {} Try.checked os 4 .any (Rows.ageKeepsSpec.pre6 enc Try.prog Try.f4 Rows.ageKeepsRow.domain false) (Rows.ageKeepsSpec.post enc Try.prog Try.f4 false true false false) := by
  refine returnsInHanded_of_change_sized (C := Try.checked) ownK started (by kernel_rfl) Try.func4
    (ChangeSpec.witness6 (enc := enc) (C := Try.checked) false ⟨#[], #[.agg #[.int .i64 0, .slice none 0 0, .slice none 0 0]], []⟩ 8 (by kernel_rfl) (by kernel_rfl) (by kernel_rfl) (by kernel_rfl)) ?_
  intro W base args ds gs before hval0 hW hcnd hsz0 _
  have hsz : (DataW.weightsEach Try.prog (Try.f4.params.toList ++ Rows.ageKeepsSpec.plain.varTypes Try.prog) (ds ++ gs)).all (· ≤ reachBytes) = true := hsz0
  have hval : ∀ (j : Nat) t v, Try.f4.params[j]? = some t → args[j]? = some v → Value.okWide Try.prog W .any base t v := hval0
  have hW' := hW
  obtain ⟨p, q, hA0, hV, rfl, hfz, hnd⟩ := hW
  have hA : DataW.TrodAll enc Try.prog W 0 (fun _ => true) true Try.f4.params.toList args.toList ds p := hA0
  rw [Try.params4] at hA hval hsz
  obtain ⟨v0, vs0, d0, ds0, p0, q0, hargs, rfl, rfl, h0, r0⟩ := trodAll_cons hA
  obtain ⟨rfl, rfl, rfl⟩ := trodAll_nil r0
  obtain rfl : args = #[v0] := by cases args; simp_all
  obtain ⟨rfl, rfl⟩ := trodVars_none hV
  clear r0
  have k0 := h0
  have lt0 : ∀ x ∈ p0, x.block < W.heap.size := by obtain ⟨m, hm⟩ := k0; exact DataW.trod_lt m _ _ _ hm
  have z0 : ∀ n ∈ d0.weights Try.prog 25, n ≤ reachBytes := fun n hn => by simpa using List.all_eq_true.1 hsz _ (DataW.weights_mem_each (j := 0) rfl rfl n hn)
  have f0 : W.noneFrozen p0 := fun b off hm => hfz b off (by simp [hm])
  obtain ⟨x0, r0, w0, h0, s0, t0, u0, y0⟩ := open_view (hval 0 25 v0 rfl rfl) h0 f0 z0
  clear hA0 hval0
  refine (walk v0 x0 W r0 w0 h0 s0 t0 u0 y0).mono fun e W' ⟨he, bel⟩ => ?_
  subst he
  exact ⟨_, rfl, _, _, _, [], _, [], hW', trodAll_mk1 (shut_bool Try.underlying4 _), (trodAll_cons_mk (Below.trod laidOut (by kernel_rfl) (of_decide_eq_true (by kernel_rfl)) k0 bel lt0) trodAll_mk0), rfl, bel.frame _, fun h => by cases h⟩

theorem over : Rows.ageKeepsRow.holds Try.pinned (OpenSpec.ofChange Rows.ageKeepsSpec) :=
  OpenClaim.holds_of_wide 4 Try.f4 rfl rfl rfl rfl rfl rfl rfl ⟨rfl, rfl, rfl, rfl, rfl⟩ rfl rfl rfl rfl rfl (by kernel_rfl) Try.func4 (by kernel_rfl)
    (of_decide_eq_true (by kernel_rfl)) (by unfold Func.isWrapper; first | (rw [if_pos (by decide +kernel)]; kernel_rfl) | (rw [if_neg (by decide +kernel)]; exact ⟨rfl, rfl⟩))
    (fun os started H enc _ => lifted os started H enc)

end Go.Proofs.Ytagojonjohimfaa.ageKeeps

namespace Go.Proofs.Ytagojonjohimfaa
/-- The statement, by its short name. -/
theorem ageKeeps_holds : Rows.AgeKeepsSaid := ageKeeps.over
#print axioms ageKeeps_holds
end Go.Proofs.Ytagojonjohimfaa
