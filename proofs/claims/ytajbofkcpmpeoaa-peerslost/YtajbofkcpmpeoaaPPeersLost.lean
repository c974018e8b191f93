
/-
  The statement PeersLost: of any three numbers, who is not heard is lost at the tick at which it missed three, and who is heard in between is not.
-/
import Derived.Test.YtajbofkcpmpeoaaRows
import Derived.Test.YtajbofkcpmpeoaaOpen
import Derived.Test.YtajbofkcpmpeoaaPeerLaw
namespace Go.Proofs.Ytajbofkcpmpeoaa.peersLost
open Go.ChangeShapes Go.WideShapes Go.ChangeAt Go.RowKit
set_option linter.unusedVariables false

/-! ### The walk -/
theorem ps_one {b p m : Int} (hb : plB b = true) (hp : plB p = true) (hn : ¬ p = b) (hm : 0 ≤ m ∧ m < 3) : psB b [⟨p, m⟩] = true :=
  psB_iff.2 ⟨hb, fun q hq => by rw [List.mem_singleton.1 hq]; exact peB_iff.2 ⟨hp, hn, by simp only [miB, decide_eq_true_iff]; exact hm⟩, List.pairwise_singleton _ _, by simp⟩
theorem hd_nil {b p : Int} (hb : plB b = true) (hp : plB p = true) (hn : ¬ p = b) : hdL b [] p = [⟨p, 0⟩] ∧ hdE b [] p = 0 :=
  hd_ok (b := b) (xs := []) (psB_iff.2 ⟨hb, fun q hq => (by cases hq), List.Pairwise.nil, by simp⟩) hp hn (by simp [hdI])
theorem hd_one {b p m : Int} (hb : plB b = true) (hp : plB p = true) (hn : ¬ p = b) (hm : 0 ≤ m ∧ m < 3) : hdL b [⟨p, m⟩] p = [⟨p, 0⟩] ∧ hdE b [⟨p, m⟩] p = 0 := by
  have e : hdI b [⟨p, m⟩] p = [⟨p, 0⟩] := by simp [hdI, ltB, gtB7]
  have h := hd_ok (ps_one hb hp hn hm) hp hn (by rw [e]; simp)
  rwa [e] at h
theorem ag_lost {b p m : Int} (hb : plB b = true) (hp : plB p = true) (hn : ¬ p = b) (hm : m = 2) : agL b [⟨p, m⟩] = [] ∧ agG b [⟨p, m⟩] = [p] ∧ agE b [⟨p, m⟩] = 0 := by
  have h := ag_yes (ps_one hb hp hn (m := m) (by omega))
  subst hm
  exact ⟨h.1.trans (by simp [agA, agP]), h.2.1.trans (by simp [agD, agP]), h.2.2⟩
theorem ag_left {b p m : Int} (hb : plB b = true) (hp : plB p = true) (hn : ¬ p = b) (hm : 0 ≤ m ∧ m < 2) : agL b [⟨p, m⟩] = [⟨p, m + 1⟩] ∧ agG b [⟨p, m⟩] = [] ∧ agE b [⟨p, m⟩] = 0 := by
  have h := ag_yes (ps_one hb hp hn (m := m) (by omega))
  have h3 : ¬ m + 1 = 3 := by omega
  exact ⟨h.1.trans (by simp [agA, agP, h3]), h.2.1.trans (by simp [agD, agP, h3]), h.2.2⟩

set_option maxRecDepth 20000 in
set_option maxHeartbeats 8000000 in
theorem walk (a0 : Int) (a1 : Int) (a2 : Int) (w : World) (w0 : (Lit.int .i64 a0).wf = true) (w1 : (Lit.int .i64 a1).wf = true) (w2 : (Lit.int .i64 a2).wf = true) :
    Calls Try.prog 5 #[.int .i64 a0, .int .i64 a1, .int .i64 a2] w fun e w' => e = .returned (.bool true) ∧ Below w.heap.size w w' := by
  have hAnd := and255
  obtain ⟨b, hbE⟩ : ∃ b, a0 % 256 = b := ⟨_, rfl⟩
  have hb : plB b = true := hbE ▸ place_mod a0
  have hb2 := plB_yes hb
  obtain ⟨p, hpE⟩ : ∃ p, (wrap64 (b + 1 + wrap64 ((IntKind.u64.wrap a1).tmod 255))).tmod 256 = p := ⟨_, rfl⟩
  have hpp : plB p = true ∧ ¬ p = b := by
    have e1 := rem_u64 a1 255 _ rfl
    obtain ⟨r, hr⟩ : ∃ r, (a1 % 18446744073709551616).toNat % 255 = r := ⟨_, rfl⟩
    have hr2 : r < 255 := by rw [← hr]; exact Nat.mod_lt _ (by decide)
    rw [hr] at e1
    have e2 : (IntKind.u64.wrap a1).tmod 255 = (r : Int) := e1
    rw [e2, w64_in (r : Int) (by omega), w64_in (b + 1 + (r : Int)) (by omega), Int.tmod_eq_emod_of_nonneg (by omega)] at hpE
    constructor
    · exact plB_mk (by omega) (by omega)
    · omega
  obtain ⟨hp, hn⟩ := hpp
  clear w0 w1 w2
  go_enter Try.func5, Try.ntmps5
  go_wp2_with (first
    | (go_at_call 22; refine (awake7_any _).mono ?_; rintro e w1 ⟨rfl, h1⟩)
    | (go_at_call 10; refine (pHeard_at (xs := []) (lo := 0) (hi := 0) RowC.nil0 (Nat.zero_le _) _ _ (hd_nil hb hp hn).1 (hd_nil hb hp hn).2).mono ?_; rintro e w2 ⟨o2, rfl, P2, h2⟩
       have hB2 := h1.on h2)
    | (go_at_call 15; refine (num_any _ _).mono ?_; rintro e w' ⟨rfl, hw'⟩; subst w'))
  clear hAnd
  go_loopw [9, 11, 12] (fun o mi i wr => ∃ (k : Nat) (m : Int), k ≤ 12 ∧ i = .int .i64 k ∧ mi = .int .i64 m ∧ (0 ≤ m ∧ m < 3) ∧ RowP 0 wr.heap.size wr o [⟨p, m⟩] ∧ Below w.heap.size w wr) (fun _ _ i _ => 12 - (intOf i).toNat)
  case atStart => exact ⟨0, 0, by omega, rfl, rfl, by omega, P2.wide (Nat.zero_le _) (Nat.le_refl _), hB2⟩
  case round =>
    obtain ⟨k, m, hk, rfl, rfl, hm, P, hbr⟩ := hrel
    by_cases hlt : k < 12
    · have hlt' : (k : Int) < 12 := by omega
      have hk0 : ¬ (k : Int) < 0 := by omega
      obtain ⟨t, htE⟩ : ∃ t, bits BinOp.and IntKind.i64 (a2 / 2 ^ k) 1 = t := ⟨_, rfl⟩
      by_cases ht : t = 1
      · subst ht
        have H1 := hd_one hb hp hn hm
        have H2 := ag_left hb hp hn (m := 0) (by omega)
        replace H1 := toHid H1
        replace H2 := toHid H2
        clear hpE hbE P2
        go_wp2_with (first
          | (go_at_call 10; refine (pHeard_at P (Nat.le_refl _) _ _ H1.out.1 H1.out.2).mono ?_; rintro e w3 ⟨o3, rfl, P3, h3⟩)
          | (go_at_call 12; refine (pAge_at P3 (Nat.le_refl _) _ H2.out.1 H2.out.2.1 H2.out.2.2).mono ?_; rintro e w4 ⟨o4, l4, rfl, A4, G4, h4⟩
             obtain ⟨pd, cd, rfl, -, -, -⟩ := G4)
          | (go_at_call 14
             have BA := Box.new w4 #[.int .i64 p, .int .i64 1] 43
             refine (sameP_at (A4.below ((Below.refl _ _).onA _) (Nat.le_refl _)) (Box.rowP (n := 1) [⟨p, 1⟩] BA rfl rfl (by decide)) (b := true) (by simp)).mono ?_; rintro e w5 ⟨rfl, h5⟩
             have k5 := ((Below.refl _ w4).onA _).on h5)
          | (go_at_call 15; refine (num_any _ _).mono ?_; rintro e w' ⟨rfl, hw'⟩; subst w'))
        go_roundw
        case rel => exact ⟨k + 1, 1, by omega, by go_num, rfl, by omega, (A4.below k5 (Nat.le_refl _)).wide (Nat.zero_le _) k5.size, ((hbr.on h3).on h4).on k5⟩
        case measure => simp [intOf]; omega
      · have ht2 : (t == 1) = false := by simpa using ht
        by_cases hm2 : m = 2
        · subst hm2
          have H2 := ag_lost hb hp hn rfl
          replace H2 := toHid H2
          clear hpE hbE P2
          go_wp2_with (first
            | (go_at_call 12; refine (pAge_at P (Nat.le_refl _) _ H2.out.1 H2.out.2.1 H2.out.2.2).mono ?_; rintro e w4 ⟨o4, l4, rfl, A4, G4, h4⟩
               obtain ⟨pa, ca, rfl, -, -⟩ := A4.pes (Nat.le_refl _))
            | (go_at_call 16
               have BA := Box.new w4 #[.int .i64 p] 3
               refine (sameI_at (G4.below ((Below.refl _ _).onA _) (Nat.le_refl _)) (Box.rowI (n := 1) [p] BA rfl rfl (by decide)) (b := true) (by simp)).mono ?_; rintro e w5 ⟨rfl, h5⟩
               have k5 := ((Below.refl _ w4).onA _).on h5)
            | (go_at_call 15; refine (num_any _ _).mono ?_; rintro e w' ⟨rfl, hw'⟩; subst w'))
          go_ret
          exact ⟨rfl, (hbr.on h4).on k5⟩
        · have hm3 : ¬ m + 1 = 3 := by omega
          have hm4 : (m + 1 == 3) = false := by simpa using hm3
          have H2 := ag_left hb hp hn (m := m) (by omega)
          replace H2 := toHid H2
          clear hpE hbE P2
          go_wp2_with (first
            | (go_at_call 12; refine (pAge_at P (Nat.le_refl _) _ H2.out.1 H2.out.2.1 H2.out.2.2).mono ?_; rintro e w4 ⟨o4, l4, rfl, A4, G4, h4⟩
               obtain ⟨pd, cd, rfl, -, -, -⟩ := G4)
            | (go_at_call 14
               have BA := Box.new w4 #[.int .i64 p, .int .i64 (m + 1)] 43
               refine (sameP_at (A4.below ((Below.refl _ _).onA _) (Nat.le_refl _)) (Box.rowP (n := 1) [⟨p, m + 1⟩] BA rfl rfl (by decide)) (b := true) (by simp)).mono ?_; rintro e w5 ⟨rfl, h5⟩
               have k5 := ((Below.refl _ w4).onA _).on h5)
            | (go_at_call 15; refine (num_any _ _).mono ?_; rintro e w' ⟨rfl, hw'⟩; subst w'))
          go_roundw
          case rel => exact ⟨k + 1, m + 1, by omega, by go_num, rfl, by omega, (A4.below k5 (Nat.le_refl _)).wide (Nat.zero_le _) k5.size, (hbr.on h4).on k5⟩
          case measure => simp [intOf]; omega
    · have hlt' : ¬ (k : Int) < 12 := by omega
      go_wp2
      go_ret
      exact ⟨rfl, hbr⟩

/-! ### The row's step -/
set_option maxRecDepth 100000 in
theorem lifted (os : Os) (started : os.Started) (H : Type) (enc : TypeId × Value → H) :
    ReturnsInHanded {} Try.checked os 5 .any (Rows.peersLostSpec.pre6 enc Try.prog Try.f5 Rows.peersLostRow.domain false) (Rows.peersLostSpec.post enc Try.prog Try.f5 false true false false) := by
  refine returnsInHanded_of_change_sized (C := Try.checked) ownK started (by kernel_rfl) Try.func5
    (ChangeSpec.witness6 (enc := enc) (C := Try.checked) false ⟨#[], #[.int .i64 0, .int .i64 0, .int .i64 0], []⟩ 8 (by kernel_rfl) (by kernel_rfl) (by kernel_rfl) (by kernel_rfl)) ?_
  intro W base args ds gs before hval0 hW hcnd hsz0 _
  have hsz : (DataW.weightsEach Try.prog (Try.f5.params.toList ++ Rows.peersLostSpec.plain.varTypes Try.prog) (ds ++ gs)).all (· ≤ reachBytes) = true := hsz0
  have hval : ∀ (j : Nat) t v, Try.f5.params[j]? = some t → args[j]? = some v → Value.okWide Try.prog W .any base t v := hval0
  have hW' := hW
  obtain ⟨p, q, hA0, hV, rfl, hfz, hnd⟩ := hW
  have hA : DataW.TrodAll enc Try.prog W 0 (fun _ => true) true Try.f5.params.toList args.toList ds p := hA0
  rw [Try.params5] at hA hval hsz
  obtain ⟨v0, vs0, d0, ds0, p0, q0, hargs, rfl, rfl, h0, r0⟩ := trodAll_cons hA
  obtain ⟨v1, vs1, d1, ds1, p1, q1, rfl, rfl, rfl, h1, r1⟩ := trodAll_cons r0
  obtain ⟨v2, vs2, d2, ds2, p2, q2, rfl, rfl, rfl, h2, r2⟩ := trodAll_cons r1
  obtain ⟨rfl, rfl, rfl⟩ := trodAll_nil r2
  obtain rfl : args = #[v0, v1, v2] := by cases args; simp_all
  obtain ⟨rfl, rfl⟩ := trodVars_none hV
  clear r0 r1 r2
  have k0 := h0
  have lt0 : ∀ x ∈ p0, x.block < W.heap.size := by obtain ⟨m, hm⟩ := k0; exact DataW.trod_lt m _ _ _ hm
  have k1 := h1
  have lt1 : ∀ x ∈ p1, x.block < W.heap.size := by obtain ⟨m, hm⟩ := k1; exact DataW.trod_lt m _ _ _ hm
  have k2 := h2
  have lt2 : ∀ x ∈ p2, x.block < W.heap.size := by obtain ⟨m, hm⟩ := k2; exact DataW.trod_lt m _ _ _ hm
  obtain ⟨a0, rfl, rfl, rfl, w0⟩ := open_int Try.underlying3 (hval 0 3 v0 rfl rfl) h0
  obtain ⟨a1, rfl, rfl, rfl, w1⟩ := open_int Try.underlying3 (hval 1 3 v1 rfl rfl) h1
  obtain ⟨a2, rfl, rfl, rfl, w2⟩ := open_int Try.underlying3 (hval 2 3 v2 rfl rfl) h2
  clear hA0 hval0
  refine (walk a0 a1 a2 W w0 w1 w2).mono fun e W' ⟨he, bel⟩ => ?_
  subst he
  exact ⟨_, rfl, _, _, _, [], _, [], hW', trodAll_mk1 (shut_bool Try.underlying4 _), (trodAll_cons_mk (Below.trod laidOut (by kernel_rfl) (of_decide_eq_true (by kernel_rfl)) k0 bel lt0) (trodAll_cons_mk (Below.trod laidOut (by kernel_rfl) (of_decide_eq_true (by kernel_rfl)) k1 bel lt1) (trodAll_cons_mk (Below.trod laidOut (by kernel_rfl) (of_decide_eq_true (by kernel_rfl)) k2 bel lt2) trodAll_mk0))), rfl, bel.frame _, fun h => by cases h⟩

theorem over : Rows.peersLostRow.holds Try.pinned (OpenSpec.ofChange Rows.peersLostSpec) :=
  OpenClaim.holds_of_wide 5 Try.f5 rfl rfl rfl rfl rfl rfl rfl ⟨rfl, rfl, rfl, rfl, rfl⟩ rfl rfl rfl rfl rfl (by kernel_rfl) Try.func5 (by kernel_rfl)
    (of_decide_eq_true (by kernel_rfl)) (by unfold Func.isWrapper; first | (rw [if_pos (by decide +kernel)]; kernel_rfl) | (rw [if_neg (by decide +kernel)]; exact ⟨rfl, rfl⟩))
    (fun os started H enc _ => lifted os started H enc)

end Go.Proofs.Ytajbofkcpmpeoaa.peersLost

namespace Go.Proofs.Ytajbofkcpmpeoaa
/-- The statement, by its short name. -/
theorem peersLost_holds : Rows.PeersLostSaid := peersLost.over
#print axioms peersLost_holds
end Go.Proofs.Ytajbofkcpmpeoaa
