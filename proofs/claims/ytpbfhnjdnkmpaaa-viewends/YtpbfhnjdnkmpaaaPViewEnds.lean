
/-
  The statement ViewEnds: of any view: the successor is the nearest of the peers upwards, the predecessor the nearest downwards, by the document's distances; with no peer both are the node itself.
-/
import Derived.Test.YtpbfhnjdnkmpaaaRows
import Derived.Test.YtpbfhnjdnkmpaaaOpen
import Derived.Test.YtpbfhnjdnkmpaaaViewLaw
import Derived.Test.YtpbfhnjdnkmpaaaRingRef
import Derived.Test.YtpbfhnjdnkmpaaaCalm
import Derived.Test.YtpbfhnjdnkmpaaaOld
import Derived.Test.YtpbfhnjdnkmpaaaOpenV
namespace Go.Proofs.Ytpbfhnjdnkmpaaa.viewEnds
open Go.ChangeShapes Go.WideShapes Go.ChangeAt Go.RowKit
set_option linter.unusedVariables false

/-! ### The walk -/
set_option maxRecDepth 20000 in
set_option maxHeartbeats 4000000 in
theorem walk (v0 : Value) (x0 : VwO) (w : World) (r0 : v0 = .agg #[.int .i64 x0.i, x0.p, x0.q]) (w0 : (Lit.int .i64 x0.i).wf = true) (h0 : VwAt 0 w.heap.size w x0.p x0.q x0.ps x0.is) (s0 : x0.ps.length * 16 ≤ 140737488351232) (t0 : x0.is.length * 8 ≤ 140737488351232) (u0 : ∀ y ∈ x0.ps, PeW y) (y0 : ∀ y ∈ x0.is, (Lit.int .i64 y).wf = true) :
    Calls Try.prog 6 #[v0] w fun e w' => e = .returned (.bool true) ∧ Below w.heap.size w w' := by
  obtain ⟨i, ps, is, p, q⟩ := x0
  dsimp only at r0 w0 h0 s0 t0 u0 y0
  subst r0
  clear w0 u0 y0 s0 t0
  have HP := toHid (h0.ps.pes (Nat.le_refl _))
  obtain ⟨a, c, a', c', ep, eq, hn, hn'⟩ := h0.shape
  subst ep eq
  have B1 := toHid (fun (cs : Array Value) (t : TypeId) => Box.new w cs t)
  have V1 := toHid (fun o : Obj => h0.alloc o)
  clear h0
  rcases Bool.eq_false_or_eq_true (vwB i ps is) with h1 | h1
  · have hE : vwE i ps is = 0 := by simp [vwE, h1]
    have hS : sucV i ps is = (idL i ps).getD (min 1 ps.length) 0 := by simp [sucV, h1]
    have hP : preV i ps is = (idL i ps).getD ps.length 0 := by simp [preV, h1]
    have H1 := toHid (fun (o : Obj) (w1 : World) (hb : Below (w.alloc o).heap.size (w.alloc o) w1) => vSucc_at ((V1.out o).below hb (by simp)) (Nat.le_trans (by simp) hb.size) hS hE)
    have H2 := toHid (fun (o : Obj) (w1 : World) (hb : Below (w.alloc o).heap.size (w.alloc o) w1) => vPred_at ((V1.out o).below hb (by simp)) (Nat.le_trans (by simp) hb.size) hP hE)
    clear hE hS hP V1
    rcases Nat.eq_zero_or_pos ps.length with h0 | h0
    · obtain rfl := List.length_eq_zero_iff.1 h0
      clear h1 h0 HP
      simp only [List.length_nil] at *
      go_enter Try.func6, Try.ntmps6
      go_wp2_with (first
        | (go_at_call 19; refine (awake9_any _).mono ?_; rintro e w1 ⟨rfl, hk⟩
           obtain ⟨b1, b2, b3⟩ := (B1.out _ _).below hk)
        | (go_at_call 9; refine (H1.out _ _ hk).mono ?_; rintro e w2 ⟨rfl, h2⟩
           replace hk := hk.on h2
           clear h2 b1 b2 b3
           obtain ⟨b1, b2, b3⟩ := (B1.out _ _).below hk)
        | (go_at_call 11; refine (H2.out _ _ hk).mono ?_; rintro e w3 ⟨rfl, h3⟩
           replace hk := hk.on h3
           clear h3 b1 b2 b3
           obtain ⟨b1, b2, b3⟩ := (B1.out _ _).below hk)
        | (go_at_call 15; refine (num_any _ _).mono ?_; rintro e w' ⟨rfl, hw'⟩; subst w'))
      go_ret
      exact ⟨rfl, ((Below.refl _ w).onA _).on hk⟩
    · have hi := vw_base h1
      obtain ⟨sp, hsp, es⟩ := idL_at (i := i) (ps := ps) (min 1 ps.length) (by omega) (by omega)
      obtain ⟨pp, hpp, ep⟩ := idL_at (i := i) (ps := ps) ps.length h0 (Nat.le_refl _)
      have hF := vw_first h1
      have hL := vw_last h1
      have hPe := vw_pe h1
      rw [← es] at hF H1
      rw [← ep] at hL H2
      have s1 := (hPe sp hsp).1
      have p1 := (hPe pp hpp).1
      have n1 : 0 < far i sp.n := (hL sp hsp).1
      have n2 : 0 < far pp.n i := by
        have e := far_back (hL pp hpp).1 hi p1
        have := far_bd i pp.n
        omega
      have HA : Hid (∀ j, j < ps.length → plB (ps.getD j ⟨0, 0⟩).n = true ∧ ¬ far i (ps.getD j ⟨0, 0⟩).n < far i sp.n ∧ ¬ far (ps.getD j ⟨0, 0⟩).n i < far pp.n i) := toHid fun j hj => by
        rw [getD_in _ _ hj]
        have hm := List.getElem_mem hj
        have a1 := hF _ hm
        have a2 := hL _ hm
        have a3 := (hPe _ hm).1
        have a4 := far_back a2.1 hi a3
        have a5 := far_back (hL pp hpp).1 hi p1
        exact ⟨a3, by omega, by omega⟩
      obtain ⟨g, hg⟩ : ∃ g : Nat → Pe, ∀ j, ps.getD j ⟨0, 0⟩ = g j := ⟨_, fun _ => rfl⟩
      simp only [hg] at HP HA
      have h00 : ¬ (ps.length : Int) = 0 := by omega
      have D1 := toHid (fun W => rdistance_yes i sp.n W hi s1)
      have D2 := toHid (fun W => rdistance_yes pp.n i W p1 hi)
      clear hF hL hPe hg es ep hsp hpp h1 h0 s1 p1
      generalize hs1 : far i sp.n = near at *
      generalize hp1 : far pp.n i = back at *
      clear hs1 hp1
      generalize sp.n = sn at *
      generalize pp.n = pn at *
      clear sp pp
      have d1 := trivial
      go_enter Try.func6, Try.ntmps6
      go_wp2_with (first
        | (go_at_call 19; refine (awake9_any _).mono ?_; rintro e w1 ⟨rfl, hk⟩
           obtain ⟨b1, b2, b3⟩ := (B1.out _ _).below hk)
        | (go_at_call 9; refine (H1.out _ _ hk).mono ?_; rintro e w2 ⟨rfl, h2⟩
           replace hk := hk.on h2
           clear h2 b1 b2 b3
           obtain ⟨b1, b2, b3⟩ := (B1.out _ _).below hk)
        | (go_at_call 11; refine (H2.out _ _ hk).mono ?_; rintro e w3 ⟨rfl, h3⟩
           replace hk := hk.on h3
           clear h3 b1 b2 b3
           obtain ⟨b1, b2, b3⟩ := (B1.out _ _).below hk)
        | (go_at_call 15; refine (num_any _ _).mono ?_; rintro e w' ⟨rfl, hw'⟩; subst w')
        | (go_at_call 23; clear d1; refine (D1.out _).mono ?_; rintro e w' ⟨rfl, hw'⟩; subst w')
        | (go_at_call 23; refine (D2.out _).mono ?_; rintro e w' ⟨rfl, hw'⟩; subst w'))
      clear H1 H2 D1 D2
      have n1' : decide (0 < near) = true := decide_eq_true n1
      have n2' : decide (0 < back) = true := decide_eq_true n2
      go_loopw [11] (fun j wr => ∃ m : Nat, m ≤ ps.length ∧ j = .int .i64 m ∧ Below w3.heap.size w3 wr) (fun j _ => ps.length - (intOf j).toNat)
      case atStart => exact ⟨0, Nat.zero_le _, rfl, Below.refl _ _⟩
      case round =>
        clear b1 b2 b3
        obtain ⟨m, hm, rfl, hbel⟩ := hrel
        have hB := hk.on hbel
        obtain ⟨b1, b2, b3⟩ := (B1.out _ _).below hB
        by_cases hlt : m < ps.length
        · obtain ⟨p3, c3, e3, -, R3⟩ := HP.out
          cases e3
          obtain ⟨b, off, rfl, -, hbw, h3⟩ := R3 (by omega)
          have hb : b < wr.heap.size := Nat.lt_of_lt_of_le hbw (Nat.le_trans (by simp) hB.size)
          obtain ⟨hz, ha1, ha2⟩ := HA.out m hlt
          have hK := h3 m hlt
          have hlt' : (m : Int) < (ps.length : Int) := by omega
          clear R3 h3 HP HA
          generalize g m = z at hK hz ha1 ha2
          obtain ⟨zn, zm⟩ := z
          dsimp only at hz ha1 ha2
          replace hK := toHid hK
          obtain ⟨k1, k2⟩ := hK.out.below (((Below.refl _ w).onA _).on hB) hbw
          dsimp only at k1 k2
          go_wp2
          refine wp_region_below (by kernel_rfl) (by kernel_rfl) ?_
          repeat (first
            | go_big_quiet_skip
            | (go_big_quiet_want; go_big_quiet_op; go_big_quiet_on)
            | (refine wpQuiet_step (fun K hK => ?_)
               go_simp
               first
                 | (refine hK _ ?_; clear hK K)
                 | (refine ⟨_, fun w' hw' => rfl, hK _ ?_⟩; clear hK K)
                 | (apply Exists.intro
                    refine ⟨fun w' hw' => ?_, hK _ ?_⟩
                    · (obtain ⟨hc', hf'⟩ := bcell hw'
                       first
                         | (go_simp; rfl)
                         | (go_at_call 23; refine (rdistance_yes _ _ _ hi hz).mono ?_; rintro e w9 ⟨rfl, hw9⟩; subst w9; exact ⟨rfl, hw'⟩))
                    clear hK K)))
          refine wpQuiet_nil ?_
          intro wc hc0
          have hB2 := hB.on hc0
          clear b1 b2 b3 k1 k2
          obtain ⟨b1, b2, b3⟩ := (B1.out _ _).below hB2
          obtain ⟨k1, k2⟩ := hK.out.below (((Below.refl _ w).onA _).on hB2) hbw
          dsimp only at k1 k2
          have hb2 : b < wc.heap.size := Nat.lt_of_lt_of_le hb hc0.size
          go_wp2
          refine wp_region_below (by kernel_rfl) (by kernel_rfl) ?_
          repeat (first
            | go_big_quiet_skip
            | (go_big_quiet_want; go_big_quiet_op; go_big_quiet_on)
            | (refine wpQuiet_step (fun K hK => ?_)
               go_simp
               first
                 | (refine hK _ ?_; clear hK K)
                 | (refine ⟨_, fun w' hw' => rfl, hK _ ?_⟩; clear hK K)
                 | (apply Exists.intro
                    refine ⟨fun w' hw' => ?_, hK _ ?_⟩
                    · (obtain ⟨hc', hf'⟩ := bcell hw'
                       first
                         | (go_simp; rfl)
                         | (go_at_call 23; refine (rdistance_yes _ _ _ hz hi).mono ?_; rintro e w9 ⟨rfl, hw9⟩; subst w9; exact ⟨rfl, hw'⟩))
                    clear hK K)))
          refine wpQuiet_nil ?_
          intro wd hd0
          have f1 : decide (far i zn < near) = false := decide_eq_false (by omega)
          have f2 : decide (far zn i < back) = false := decide_eq_false (by omega)
          clear b1 b2 b3 k1 k2 ha1 ha2 hz n1 n2 n1' n2' h00 B1 hK
          generalize far i zn = A1 at f1 ⊢
          generalize far zn i = A2 at f2 ⊢
          go_wp2
          go_roundw
          case rel => exact ⟨m + 1, by omega, by go_num, (hbel.on hc0).on hd0⟩
          case measure => simp [intOf]; omega
        · clear HP HA
          go_wp2
          go_ret
          exact ⟨rfl, ((Below.refl _ w).onA _).on hB⟩
  · have hE : vwE i ps is = 900 := by simp [vwE, h1]
    have hS : sucV i ps is = 0 := by simp [sucV, h1]
    have hP : preV i ps is = 0 := by simp [preV, h1]
    have H1 := toHid (fun (o : Obj) (w1 : World) (hb : Below (w.alloc o).heap.size (w.alloc o) w1) => vSucc_at ((V1.out o).below hb (by simp)) (Nat.le_trans (by simp) hb.size) hS hE)
    have H2 := toHid (fun (o : Obj) (w1 : World) (hb : Below (w.alloc o).heap.size (w.alloc o) w1) => vPred_at ((V1.out o).below hb (by simp)) (Nat.le_trans (by simp) hb.size) hP hE)
    have H3 := toHid (fun (o : Obj) (w1 : World) (hb : Below (w.alloc o).heap.size (w.alloc o) w1) => vMay_is ((V1.out o).below hb (by simp)) (Nat.le_trans (by simp) hb.size) h1)
    clear hE hS hP h1 V1 HP
    go_enter Try.func6, Try.ntmps6
    go_wp2_with (first
      | (go_at_call 19; refine (awake9_any _).mono ?_; rintro e w1 ⟨rfl, hk⟩
         obtain ⟨b1, b2, b3⟩ := (B1.out _ _).below hk)
      | (go_at_call 9; refine (H1.out _ _ hk).mono ?_; rintro e w2 ⟨rfl, h2⟩
         replace hk := hk.on h2
         clear h2 b1 b2 b3
         obtain ⟨b1, b2, b3⟩ := (B1.out _ _).below hk)
      | (go_at_call 11; refine (H2.out _ _ hk).mono ?_; rintro e w3 ⟨rfl, h3⟩
         replace hk := hk.on h3
         clear h3 b1 b2 b3
         obtain ⟨b1, b2, b3⟩ := (B1.out _ _).below hk)
      | (go_at_call 15; refine (num_any _ _).mono ?_; rintro e w' ⟨rfl, hw'⟩; subst w')
      | (go_at_call 16; refine (H3.out _ _ hk).mono ?_; rintro e w4 ⟨rfl, h4⟩))
    go_ret
    exact ⟨rfl, (((Below.refl _ w).onA _).on hk).on h4⟩

/-! ### The row's step -/
set_option maxRecDepth 100000 in
theorem lifted (os : Os) (started : os.Started) (H : Type) (enc : TypeId × Value → H) :
    ReturnsInHanded {} Try.checked os 6 .any (Rows.viewEndsSpec.pre6 enc Try.prog Try.f6 Rows.viewEndsRow.domain false) (Rows.viewEndsSpec.post enc Try.prog Try.f6 false true false false) := by
  refine returnsInHanded_of_change_sized (C := Try.checked) ownK started (by kernel_rfl) Try.func6
    (ChangeSpec.witness6 (enc := enc) (C := Try.checked) false ⟨#[], #[.agg #[.int .i64 0, .slice none 0 0, .slice none 0 0]], []⟩ 8 (by kernel_rfl) (by kernel_rfl) (by kernel_rfl) (by kernel_rfl)) ?_
  intro W base args ds gs before hval0 hW hcnd hsz0 _
  have hsz : (DataW.weightsEach Try.prog (Try.f6.params.toList ++ Rows.viewEndsSpec.plain.varTypes Try.prog) (ds ++ gs)).all (· ≤ reachBytes) = true := hsz0
  have hval : ∀ (j : Nat) t v, Try.f6.params[j]? = some t → args[j]? = some v → Value.okWide Try.prog W .any base t v := hval0
  have hW' := hW
  obtain ⟨p, q, hA0, hV, rfl, hfz, hnd⟩ := hW
  have hA : DataW.TrodAll enc Try.prog W 0 (fun _ => true) true Try.f6.params.toList args.toList ds p := hA0
  rw [Try.params6] at hA hval hsz
  obtain ⟨v0, vs0, d0, ds0, p0, q0, hargs, rfl, rfl, h0, r0⟩ := trodAll_cons hA
  obtain ⟨rfl, rfl, rfl⟩ := trodAll_nil r0
  obtain rfl : args = #[v0] := by cases args; simp_all
  obtain ⟨rfl, rfl⟩ := trodVars_none hV
  clear r0
  have k0 := h0
  have lt0 : ∀ x ∈ p0, x.block < W.heap.size := by obtain ⟨m, hm⟩ := k0; exact DataW.trod_lt m _ _ _ hm
  have z0 : ∀ n ∈ d0.weights Try.prog 25, n ≤ reachBytes := fun n hn => by simpa using List.all_eq_true.1 hsz _ (DataW.weights_mem_each (j := 0) rfl rfl n hn)
  have f0 : W.noneFrozen p0 := fun b off hm => hfz b off (by simp [hm])
  obtain ⟨x0, r0, w0, h0, s0, t0, u0, y0⟩ := open_view (hval 0 25 v0 rfl rfl) h0 f0 z0
  clear hA0 hval0
  refine (walk v0 x0 W r0 w0 h0 s0 t0 u0 y0).mono fun e W' ⟨he, bel⟩ => ?_
  subst he
  exact ⟨_, rfl, _, _, _, [], _, [], hW', trodAll_mk1 (shut_bool Try.underlying4 _), (trodAll_cons_mk (Below.trod laidOut (by kernel_rfl) (of_decide_eq_true (by kernel_rfl)) k0 bel lt0) trodAll_mk0), rfl, bel.frame _, fun h => by cases h⟩

theorem over : Rows.viewEndsRow.holds Try.pinned (OpenSpec.ofChange Rows.viewEndsSpec) :=
  OpenClaim.holds_of_wide 6 Try.f6 rfl rfl rfl rfl rfl rfl rfl ⟨rfl, rfl, rfl, rfl, rfl⟩ rfl rfl rfl rfl rfl (by kernel_rfl) Try.func6 (by kernel_rfl)
    (of_decide_eq_true (by kernel_rfl)) (by unfold Func.isWrapper; first | (rw [if_pos (by decide +kernel)]; kernel_rfl) | (rw [if_neg (by decide +kernel)]; exact ⟨rfl, rfl⟩))
    (fun os started H enc _ => lifted os started H enc)

end Go.Proofs.Ytpbfhnjdnkmpaaa.viewEnds

namespace Go.Proofs.Ytpbfhnjdnkmpaaa
/-- The statement, by its short name. -/
theorem viewEnds_holds : Rows.ViewEndsSaid := viewEnds.over
#print axioms viewEnds_holds
end Go.Proofs.Ytpbfhnjdnkmpaaa
