
/-
  The statement ViewOwns: of any view and any key: a key behind the predecessor, up to the node, is the node's own by the document's ring; each other key is another's, a peer's.
-/
import Derived.Test.YtpbfhnjdnkmpaaaRows
import Derived.Test.YtpbfhnjdnkmpaaaOpen
import Derived.Test.YtpbfhnjdnkmpaaaViewLaw
import Derived.Test.YtpbfhnjdnkmpaaaRingRef
import Derived.Test.YtpbfhnjdnkmpaaaOpenV
namespace Go.Proofs.Ytpbfhnjdnkmpaaa.viewOwns
open Go.ChangeShapes Go.WideShapes Go.ChangeAt Go.RowKit
set_option linter.unusedVariables false

/-! ### The walk -/
set_option maxHeartbeats 4000000 in
theorem walk (v0 : Value) (x0 : VwO) (a1 : Int) (w : World) (r0 : v0 = .agg #[.int .i64 x0.i, x0.p, x0.q]) (w0 : (Lit.int .i64 x0.i).wf = true) (h0 : VwAt 0 w.heap.size w x0.p x0.q x0.ps x0.is) (s0 : x0.ps.length * 16 ≤ 140737488351232) (t0 : x0.is.length * 8 ≤ 140737488351232) (u0 : ∀ y ∈ x0.ps, PeW y) (y0 : ∀ y ∈ x0.is, (Lit.int .i64 y).wf = true) (w1 : (Lit.int .i64 a1).wf = true) :
    Calls Try.prog 5 #[v0, .int .i64 a1] w fun e w' => e = .returned (.bool true) ∧ Below w.heap.size w w' := by
  obtain ⟨i, ps, is, p, q⟩ := x0
  dsimp only at r0 w0 h0 s0 t0 u0 y0
  subst r0
  clear w0 u0 y0 w1 s0 t0
  have HP := toHid (h0.ps.pes (Nat.le_refl _))
  obtain ⟨a, c, a', c', ep, eq, hn, hn'⟩ := h0.shape
  subst ep eq
  have B1 := toHid (fun (cs : Array Value) (t : TypeId) => Box.new w cs t)
  have V1 := toHid (fun o : Obj => h0.alloc o)
  clear h0
  have hkm := and255 a1
  have hkp := place_mod a1
  generalize a1 % 256 = k at hkm hkp
  rcases Bool.eq_false_or_eq_true (vwB i ps is) with h1 | h1
  · have hE : vwE i ps is = 0 := by simp [vwE, h1]
    have hE2 : owE i ps is k = 0 := by simp [owE, h1, hkp]
    have hV : owV i ps is k = ownerOf (idL i ps) k := by simp [owV, h1, hkp]
    have hP : preV i ps is = (idL i ps).getD ps.length 0 := by simp [preV, h1]
    have hW := vw_owns h1 hkp
    have hO := vw_peer h1 k
    have hi := vw_base h1
    have hpl : plB ((idL i ps).getD ps.length 0) = true := plsB_mem (vw_pls h1) _ (by rw [getD_in _ _ (by rw [idL_len]; omega)]; exact List.getElem_mem _)
    have H1 := toHid (fun (o : Obj) (w1 : World) (hb : Below (w.alloc o).heap.size (w.alloc o) w1) => vPred_at ((V1.out o).below hb (by simp)) (Nat.le_trans (by simp) hb.size) hP hE)
    have H2 := toHid (fun (o : Obj) (w1 : World) (hb : Below (w.alloc o).heap.size (w.alloc o) w1) => vOwner_at ((V1.out o).below hb (by simp)) (Nat.le_trans (by simp) hb.size) hV hE2)
    clear hE hE2 hV hP h1 V1
    obtain ⟨g, hg⟩ : ∃ g : Nat → Pe, ∀ j, ps.getD j ⟨0, 0⟩ = g j := ⟨_, fun _ => rfl⟩
    have hO2 : (∃ j, j < ps.length ∧ (g j).n = ownerOf (idL i ps) k) ↔ ¬ ownerOf (idL i ps) k = i := by
      rw [← hO]
      constructor
      · rintro ⟨j, hj, e⟩
        rw [← hg, getD_in _ _ hj] at e
        exact ⟨_, List.getElem_mem hj, e⟩
      · rintro ⟨p, hp, e⟩
        obtain ⟨j, hj, rfl⟩ := List.mem_iff_getElem.1 hp
        exact ⟨j, hj, by rw [← hg, getD_in _ _ hj]; exact e⟩
    simp only [hg] at HP
    clear hO hg
    generalize (idL i ps).getD ps.length 0 = pr at *
    generalize ownerOf (idL i ps) k = ow at *
    have H3 := toHid (fun W => rwithin_yes pr k i W hpl hkp hi)
    simp only [hW] at H3
    replace hO2 := toHid hO2
    clear hpl hkp hi hW
    by_cases he : ow = i
    · simp only [decide_eq_true he] at H3
      have hne : Hid (∀ t, t < ps.length → ¬ (g t).n = ow) := toHid fun t ht e => hO2.out.1 ⟨t, ht, e⟩ he
      clear hO2
      have he2 : (ow == i) = true := by simpa using he
      go_enter Try.func5, Try.ntmps5
      go_wp2_with (first
        | (go_at_call 19; refine (awake9_any _).mono ?_; rintro e w1 ⟨rfl, hk⟩
           obtain ⟨b1, b2, b3⟩ := (B1.out _ _).below hk)
        | (go_at_call 11; refine (H1.out _ _ hk).mono ?_; rintro e w2 ⟨rfl, h2⟩
           replace hk := hk.on h2
           clear h2 b1 b2 b3
           obtain ⟨b1, b2, b3⟩ := (B1.out _ _).below hk)
        | (go_at_call 13; refine (H2.out _ _ hk).mono ?_; rintro e w3 ⟨rfl, h3⟩
           replace hk := hk.on h3
           clear h3 b1 b2 b3
           obtain ⟨b1, b2, b3⟩ := (B1.out _ _).below hk)
        | (go_at_call 22; refine (H3.out _).mono ?_; rintro e w' ⟨rfl, hw'⟩; subst w')
        | (go_at_call 15; refine (num_any _ _).mono ?_; rintro e w' ⟨rfl, hw'⟩; subst w'))
      go_loop [12] (fun j => ∃ m : Nat, m ≤ ps.length ∧ j = .int .i64 m ∧ Hid (∀ t, t < m → ¬ (g t).n = ow)) (fun j => ps.length - (intOf j).toNat)
      case atStart => exact ⟨0, Nat.zero_le _, rfl, toHid fun t ht => absurd ht (Nat.not_lt_zero _)⟩
      case round =>
        obtain ⟨m, hm, rfl, hj⟩ := hrel
        by_cases hlt : m < ps.length
        · obtain ⟨p3, c3, e3, -, R3⟩ := HP.out
          cases e3
          obtain ⟨b, off, rfl, -, hbw, h3⟩ := R3 (by omega)
          obtain ⟨k1, k2⟩ := (h3 m hlt).below (((Below.refl _ w).onA _).on hk) hbw
          have hlt' : (m : Int) < (ps.length : Int) := by omega
          clear R3 h3 HP
          have hz := hne.out m hlt
          generalize g m = z at k1 k2 hz
          obtain ⟨zn, zm⟩ := z
          dsimp only at k1 k2 hz
          replace he := toHid he
          clear hj
          go_wp2
          go_round
          case rel => exact ⟨m + 1, by omega, by go_num, toHid fun t ht => hne.out t (by omega)⟩
          case measure => simp [intOf]; omega
        · clear hj
          go_wp2
          go_ret
          exact ⟨rfl, ((Below.refl _ w).onA _).on hk⟩
    · simp only [decide_eq_false he] at H3
      have hex := hO2.out.2 he
      replace hex := toHid hex
      clear hO2
      have he2 : (ow == i) = false := by simpa using he
      go_enter Try.func5, Try.ntmps5
      go_wp2_with (first
        | (go_at_call 19; refine (awake9_any _).mono ?_; rintro e w1 ⟨rfl, hk⟩
           obtain ⟨b1, b2, b3⟩ := (B1.out _ _).below hk)
        | (go_at_call 11; refine (H1.out _ _ hk).mono ?_; rintro e w2 ⟨rfl, h2⟩
           replace hk := hk.on h2
           clear h2 b1 b2 b3
           obtain ⟨b1, b2, b3⟩ := (B1.out _ _).below hk)
        | (go_at_call 13; refine (H2.out _ _ hk).mono ?_; rintro e w3 ⟨rfl, h3⟩
           replace hk := hk.on h3
           clear h3 b1 b2 b3
           obtain ⟨b1, b2, b3⟩ := (B1.out _ _).below hk)
        | (go_at_call 22; refine (H3.out _).mono ?_; rintro e w' ⟨rfl, hw'⟩; subst w')
        | (go_at_call 15; refine (num_any _ _).mono ?_; rintro e w' ⟨rfl, hw'⟩; subst w'))
      go_loop [12] (fun j => ∃ m : Nat, m ≤ ps.length ∧ j = .int .i64 m ∧ Hid (∀ t, t < m → ¬ (g t).n = ow)) (fun j => ps.length - (intOf j).toNat)
      case atStart => exact ⟨0, Nat.zero_le _, rfl, toHid fun t ht => absurd ht (Nat.not_lt_zero _)⟩
      case round =>
        obtain ⟨m, hm, rfl, hj⟩ := hrel
        by_cases hlt : m < ps.length
        · obtain ⟨p3, c3, e3, -, R3⟩ := HP.out
          cases e3
          obtain ⟨b, off, rfl, -, hbw, h3⟩ := R3 (by omega)
          obtain ⟨k1, k2⟩ := (h3 m hlt).below (((Below.refl _ w).onA _).on hk) hbw
          have hlt' : (m : Int) < (ps.length : Int) := by omega
          clear R3 h3 HP
          by_cases hz : (g m).n = ow
          · generalize g m = z at k1 k2 hz
            obtain ⟨zn, zm⟩ := z
            dsimp only at k1 k2 hz
            clear hj hex
            go_wp2
            go_ret
            exact ⟨rfl, ((Below.refl _ w).onA _).on hk⟩
          · have hj' : Hid (∀ t, t < m + 1 → ¬ (g t).n = ow) := toHid fun t ht => by
              by_cases e : t = m
              · rw [e]; exact hz
              · exact hj.out t (by omega)
            generalize g m = z at k1 k2 hz
            obtain ⟨zn, zm⟩ := z
            dsimp only at k1 k2 hz
            clear hj
            go_wp2
            go_round
            case rel => exact ⟨m + 1, by omega, by go_num, hj'⟩
            case measure => simp [intOf]; omega
        · obtain ⟨t, ht, e⟩ := hex.out
          exact absurd e (hj.out t (by omega))
  · have hE : vwE i ps is = 900 := by simp [vwE, h1]
    have hE2 : owE i ps is k = 900 := by simp [owE, h1]
    have hV : owV i ps is k = 0 := by simp [owV, h1]
    have hP : preV i ps is = 0 := by simp [preV, h1]
    have H1 := toHid (fun (o : Obj) (w1 : World) (hb : Below (w.alloc o).heap.size (w.alloc o) w1) => vPred_at ((V1.out o).below hb (by simp)) (Nat.le_trans (by simp) hb.size) hP hE)
    have H2 := toHid (fun (o : Obj) (w1 : World) (hb : Below (w.alloc o).heap.size (w.alloc o) w1) => vOwner_at ((V1.out o).below hb (by simp)) (Nat.le_trans (by simp) hb.size) hV hE2)
    have H3 := toHid (fun (o : Obj) (w1 : World) (hb : Below (w.alloc o).heap.size (w.alloc o) w1) => vMay_is ((V1.out o).below hb (by simp)) (Nat.le_trans (by simp) hb.size) h1)
    clear hE hE2 hV hP h1 V1 HP
    go_enter Try.func5, Try.ntmps5
    go_wp2_with (first
      | (go_at_call 19; refine (awake9_any _).mono ?_; rintro e w1 ⟨rfl, hk⟩
         obtain ⟨b1, b2, b3⟩ := (B1.out _ _).below hk)
      | (go_at_call 11; refine (H1.out _ _ hk).mono ?_; rintro e w2 ⟨rfl, h2⟩
         replace hk := hk.on h2
         clear h2 b1 b2 b3
         obtain ⟨b1, b2, b3⟩ := (B1.out _ _).below hk)
      | (go_at_call 13; refine (H2.out _ _ hk).mono ?_; rintro e w3 ⟨rfl, h3⟩
         replace hk := hk.on h3
         clear h3 b1 b2 b3
         obtain ⟨b1, b2, b3⟩ := (B1.out _ _).below hk)
      | (go_at_call 16; refine (H3.out _ _ hk).mono ?_; rintro e w4 ⟨rfl, h4⟩)
      | (go_at_call 15; refine (num_any _ _).mono ?_; rintro e w' ⟨rfl, hw'⟩; subst w'))
    go_ret
    exact ⟨rfl, (((Below.refl _ w).onA _).on hk).on h4⟩

/-! ### The row's step -/
set_option maxRecDepth 100000 in
theorem lifted (os : Os) (started : os.Started) (H : Type) (enc : TypeId × Value → H) :
    ReturnsInHanded {} Try.checked os 5 .any (Rows.viewOwnsSpec.pre6 enc Try.prog Try.f5 Rows.viewOwnsRow.domain false) (Rows.viewOwnsSpec.post enc Try.prog Try.f5 false true false false) := by
  refine returnsInHanded_of_change_sized (C := Try.checked) ownK started (by kernel_rfl) Try.func5
    (ChangeSpec.witness6 (enc := enc) (C := Try.checked) false ⟨#[], #[.agg #[.int .i64 0, .slice none 0 0, .slice none 0 0], .int .i64 0], []⟩ 8 (by kernel_rfl) (by kernel_rfl) (by kernel_rfl) (by kernel_rfl)) ?_
  intro W base args ds gs before hval0 hW hcnd hsz0 _
  have hsz : (DataW.weightsEach Try.prog (Try.f5.params.toList ++ Rows.viewOwnsSpec.plain.varTypes Try.prog) (ds ++ gs)).all (· ≤ reachBytes) = true := hsz0
  have hval : ∀ (j : Nat) t v, Try.f5.params[j]? = some t → args[j]? = some v → Value.okWide Try.prog W .any base t v := hval0
  have hW' := hW
  obtain ⟨p, q, hA0, hV, rfl, hfz, hnd⟩ := hW
  have hA : DataW.TrodAll enc Try.prog W 0 (fun _ => true) true Try.f5.params.toList args.toList ds p := hA0
  rw [Try.params5] at hA hval hsz
  obtain ⟨v0, vs0, d0, ds0, p0, q0, hargs, rfl, rfl, h0, r0⟩ := trodAll_cons hA
  obtain ⟨v1, vs1, d1, ds1, p1, q1, rfl, rfl, rfl, h1, r1⟩ := trodAll_cons r0
  obtain ⟨rfl, rfl, rfl⟩ := trodAll_nil r1
  obtain rfl : args = #[v0, v1] := by cases args; simp_all
  obtain ⟨rfl, rfl⟩ := trodVars_none hV
  clear r0 r1
  have k0 := h0
  have lt0 : ∀ x ∈ p0, x.block < W.heap.size := by obtain ⟨m, hm⟩ := k0; exact DataW.trod_lt m _ _ _ hm
  have z0 : ∀ n ∈ d0.weights Try.prog 25, n ≤ reachBytes := fun n hn => by simpa using List.all_eq_true.1 hsz _ (DataW.weights_mem_each (j := 0) rfl rfl n hn)
  have f0 : W.noneFrozen p0 := fun b off hm => hfz b off (by simp [hm])
  have k1 := h1
  have lt1 : ∀ x ∈ p1, x.block < W.heap.size := by obtain ⟨m, hm⟩ := k1; exact DataW.trod_lt m _ _ _ hm
  obtain ⟨x0, r0, w0, h0, s0, t0, u0, y0⟩ := open_view (hval 0 25 v0 rfl rfl) h0 f0 z0
  obtain ⟨a1, rfl, rfl, rfl, w1⟩ := open_int Try.underlying3 (hval 1 3 v1 rfl rfl) h1
  clear hA0 hval0
  refine (walk v0 x0 a1 W r0 w0 h0 s0 t0 u0 y0 w1).mono fun e W' ⟨he, bel⟩ => ?_
  subst he
  exact ⟨_, rfl, _, _, _, [], _, [], hW', trodAll_mk1 (shut_bool Try.underlying4 _), (trodAll_cons_mk (Below.trod laidOut (by kernel_rfl) (of_decide_eq_true (by kernel_rfl)) k0 bel lt0) (trodAll_cons_mk (Below.trod laidOut (by kernel_rfl) (of_decide_eq_true (by kernel_rfl)) k1 bel lt1) trodAll_mk0)), rfl, bel.frame _, fun h => by cases h⟩

theorem over : Rows.viewOwnsRow.holds Try.pinned (OpenSpec.ofChange Rows.viewOwnsSpec) :=
  OpenClaim.holds_of_wide 5 Try.f5 rfl rfl rfl rfl rfl rfl rfl ⟨rfl, rfl, rfl, rfl, rfl⟩ rfl rfl rfl rfl rfl (by kernel_rfl) Try.func5 (by kernel_rfl)
    (of_decide_eq_true (by kernel_rfl)) (by unfold Func.isWrapper; first | (rw [if_pos (by decide +kernel)]; kernel_rfl) | (rw [if_neg (by decide +kernel)]; exact ⟨rfl, rfl⟩))
    (fun os started H enc _ => lifted os started H enc)

end Go.Proofs.Ytpbfhnjdnkmpaaa.viewOwns

namespace Go.Proofs.Ytpbfhnjdnkmpaaa
/-- The statement, by its short name. -/
theorem viewOwns_holds : Rows.ViewOwnsSaid := viewOwns.over
#print axioms viewOwns_holds
end Go.Proofs.Ytpbfhnjdnkmpaaa
