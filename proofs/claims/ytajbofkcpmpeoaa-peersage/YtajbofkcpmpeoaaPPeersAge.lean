
/-
  The statement PeersAge: of any list of peers and any number, ageing keeps each peer, one more missed, or tells that it is lost.
-/
import Derived.Test.YtajbofkcpmpeoaaRows
import Derived.Test.YtajbofkcpmpeoaaOpen
import Derived.Test.YtajbofkcpmpeoaaPeerLaw
import Derived.Test.YtajbofkcpmpeoaaPeerOld
import Derived.Test.YtajbofkcpmpeoaaOpenP
namespace Go.Proofs.Ytajbofkcpmpeoaa.peersAge
open Go.ChangeShapes Go.WideShapes Go.ChangeAt Go.RowKit
set_option linter.unusedVariables false

/-! ### The walk -/
set_option maxRecDepth 20000 in
set_option maxHeartbeats 8000000 in
theorem walk (a0 : Int) (v1 : Value) (x1 : List Pe) (w : World) (w0 : (Lit.int .i64 a0).wf = true) (r1 : RowP 0 w.heap.size w v1 x1) (s1 : x1.length * 16 ≤ 140737488351232) (w1 : ∀ x ∈ x1, PeW x) :
    Calls Try.prog 7 #[.int .i64 a0, v1] w fun e w' => e = .returned (.bool true) ∧ Below w.heap.size w w' := by
  clear w0 w1
  have hr := r1
  have hz : w.heap.size ≤ w.heap.size := Nat.le_refl _
  obtain ⟨p0, c0, e0, n0, hp0⟩ := hr.pes hz
  subst e0
  clear r1 s1
  rcases Bool.eq_false_or_eq_true (psB a0 x1) with hs | hs
  · obtain ⟨h0, hv, hri, hlen⟩ := psB_iff.1 hs
    have hmi : ∀ p ∈ x1, miB p.m = true := fun p hp => (peB_iff.1 (hv p hp)).2.2
    have HA := toHid (agA_psB hs)
    obtain ⟨hL, hG, hE⟩ := ag_yes hs
    have lA : (agA x1).length ≤ 16 := (psB_iff.1 HA.out).2.2.2
    have lD : (agD x1).length ≤ 16 := by have := agD_len x1 x1.length; rw [List.take_length] at this; omega
    clear hs hri hv h0
    go_enter Try.func7, Try.ntmps7
    go_wp2_with (first
      | (go_at_call 22; refine (awake7_any _).mono ?_; rintro e w1 ⟨rfl, h1⟩)
      | (go_at_call 12; refine (pAge_at (hr.below h1 hz) h1.size _ hL hG hE).mono ?_; rintro e w2 ⟨o2, l2, rfl, P2, G2, h2⟩
         have hB2 := h1.on h2
         obtain ⟨pa, ca, rfl, na, hpa⟩ := P2.pes (Nat.le_refl _)
         obtain ⟨pd, cd, rfl, _, _, hpd⟩ := G2)
      | (go_at_call 15; refine (num_any _ _).mono ?_; rintro e w' ⟨rfl, hw'⟩; subst w'))
    go_loopw [8, 9, 10] (fun i j kk wr => ∃ (k q : Nat), k ≤ x1.length ∧ kk = .int .i64 k ∧ i = .int .i64 ((agA (x1.take k)).length : Int) ∧ j = .int .i64 ((agD (x1.take k)).length : Int) ∧ wr = w2.drewN q) (fun _ _ kk _ => x1.length - (intOf kk).toNat)
    case atStart => exact ⟨0, 0, Nat.zero_le _, rfl, rfl, rfl, rfl⟩
    case round =>
      obtain ⟨k, q, hk, rfl, rfl, rfl, rfl⟩ := hrel
      by_cases hlt : k < x1.length
      · have hlt' : (k : Int) < (x1.length : Int) := by omega
        have hAs := agA_step hlt
        have hDs := agD_step hlt
        have hAl := agA_len x1 k
        have hDl := agD_len x1 k
        have hpl := miB_yes (hmi _ (List.getElem_mem hlt))
        have hne := fun i => agA_ne (xs := x1) (i := i)
        obtain ⟨bb, off, rfl, _, hbb, hc⟩ := hp0 (by omega)
        have it1 := (hc k hlt).below hB2 hbb
        rw [getD_in _ _ hlt] at it1
        obtain ⟨c1, c2⟩ := it1
        by_cases hin : agP x1[k] = true
        · obtain ⟨g1, g2⟩ := agD_at hlt hin
          rw [if_pos hin, List.append_nil] at hAs
          rw [if_pos hin] at hDs
          have hAs2 : Hid (((agA (x1.take (k + 1))).length : Int) = ((agA (x1.take k)).length : Int)) := toHid (by rw [hAs])
          have hDs2 : Hid (((agD (x1.take (k + 1))).length : Int) = ((agD (x1.take k)).length : Int) + 1) := toHid (by rw [hDs]; simp)
          have h3 : x1[k].m = 2 := by simp [agP] at hin; omega
          obtain ⟨bd, offd, rfl, _, _, hcd⟩ := hpd (by intro e; rw [e] at g1; simp at g1)
          have d1 := (hcd _ g1).1
          rw [g2] at d1
          have g1' : ((agD (x1.take k)).length : Int) < ((agD x1).length : Int) := by omega
          clear hc hp0 hin hAs hDs hcd hpd g2
          generalize x1[k] = z at *
          obtain ⟨zn, zm⟩ := z
          dsimp only at c1 c2 h3 hpl d1
          subst h3
          by_cases hia : (agA (x1.take k)).length < (agA x1).length
          · have hia' : ((agA (x1.take k)).length : Int) < ((agA x1).length : Int) := by omega
            have hne1 := hne _ hia
            obtain ⟨ba, offa, rfl, _, hba, hca⟩ := hpa (by omega)
            obtain ⟨e1, e2⟩ := hca _ hia
            clear hca hpa hne
            generalize (agA x1).getD (agA (x1.take k)).length ⟨0, 0⟩ = y at *
            obtain ⟨yn, ym⟩ := y
            dsimp only at e1 e2 hne1
            generalize (agA (x1.take k)).length = ia at *
            generalize (agD (x1.take k)).length = jd at *
            by_cases hyn : yn = zn
            · subst hyn
              go_wp2
              go_quiet (fail)
              go_wp2
              go_quiet (fail)
              go_wp2
              go_roundw
              case rel => exact ⟨k + 1, _, by omega, by go_num, by rw [hAs2.out], by rw [hDs2.out], rfl⟩
              case measure => simp [intOf]; omega
            · go_wp2
              go_quiet (fail)
              go_wp2
              go_quiet (fail)
              go_wp2
              go_roundw
              case rel => exact ⟨k + 1, _, by omega, by go_num, by rw [hAs2.out], by rw [hDs2.out], rfl⟩
              case measure => simp [intOf]; omega
          · have hia' : ¬ ((agA (x1.take k)).length : Int) < ((agA x1).length : Int) := by omega
            have hia2 : decide (((agA (x1.take k)).length : Int) < ((agA x1).length : Int)) = false := decide_eq_false hia'
            clear hpa hne
            generalize (agA (x1.take k)).length = ia at *
            generalize (agD (x1.take k)).length = jd at *
            go_wp2
            go_quiet (fail)
            go_wp2
            go_quiet (fail)
            go_wp2
            go_roundw
            case rel => exact ⟨k + 1, _, by omega, by go_num, by rw [hAs2.out], by rw [hDs2.out], rfl⟩
            case measure => simp [intOf]; omega
        · obtain ⟨g1, g2⟩ := agA_at hlt hin
          rw [if_neg hin] at hAs
          rw [if_neg hin, List.append_nil] at hDs
          have hAs2 : Hid (((agA (x1.take (k + 1))).length : Int) = ((agA (x1.take k)).length : Int) + 1) := toHid (by rw [hAs]; simp)
          have hDs2 : Hid (((agD (x1.take (k + 1))).length : Int) = ((agD (x1.take k)).length : Int)) := toHid (by rw [hDs])
          obtain ⟨ba, offa, rfl, _, hba, hca⟩ := hpa (by omega)
          obtain ⟨e1, e2⟩ := hca _ g1
          rw [g2] at e1 e2
          dsimp only at e1 e2
          have g1' : ((agA (x1.take k)).length : Int) < ((agA x1).length : Int) := by omega
          clear hc hp0 hin hAs hDs hca hpa g2 hne
          generalize x1[k] = z at *
          obtain ⟨zn, zm⟩ := z
          dsimp only at c1 c2 hpl e1 e2
          generalize (agA (x1.take k)).length = ia at *
          generalize (agD (x1.take k)).length = jd at *
          go_wp2
          go_quiet (fail)
          go_wp2
          go_roundw
          case rel => exact ⟨k + 1, _, by omega, by go_num, by rw [hAs2.out], by rw [hDs2.out], rfl⟩
          case measure => simp [intOf]; omega
      · have hm2 : k = x1.length := by omega
        subst hm2
        rw [List.take_length]
        have PA := toHid (P2.drewN q)
        clear hp0 hpa hpd hmi
        go_wp2_with (first
          | (go_at_call 17; refine (pMay_is PA.out (Nat.le_refl _) HA.out).mono ?_; rintro e w7 ⟨rfl, h7⟩))
        go_ret
        exact ⟨rfl, (hB2.onD q).on h7⟩
  · obtain ⟨hL, hG, hE⟩ := ag_no hs
    clear hp0
    go_enter Try.func7, Try.ntmps7
    go_wp2_with (first
      | (go_at_call 22; refine (awake7_any _).mono ?_; rintro e w1 ⟨rfl, h1⟩)
      | (go_at_call 12; refine (pAge_at (hr.below h1 hz) h1.size _ hL hG hE).mono ?_; rintro e w2 ⟨o2, l2, rfl, P2, G2, h2⟩
         obtain ⟨pa, ca, rfl, -, -⟩ := P2.pes (Nat.le_refl _)
         obtain ⟨pd, cd, rfl, -, -, -⟩ := G2
         have hB2 := h1.on h2)
      | (go_at_call 17; refine (pMay_is (hr.below hB2 hz) hB2.size hs).mono ?_; rintro e w7 ⟨rfl, h7⟩)
      | (go_at_call 15; refine (num_any _ _).mono ?_; rintro e w' ⟨rfl, hw'⟩; subst w'))
    go_ret
    exact ⟨rfl, hB2.on h7⟩

/-! ### The row's step -/
set_option maxRecDepth 100000 in
theorem lifted (os : Os) (started : os.Started) (H : Type) (enc : TypeId × Value → H) :
    ReturnsInHanded {} Try.checked os 7 .any (Rows.peersAgeSpec.pre6 enc Try.prog Try.f7 Rows.peersAgeRow.domain false) (Rows.peersAgeSpec.post enc Try.prog Try.f7 false true false false) := by
  refine returnsInHanded_of_change_sized (C := Try.checked) ownK started (by kernel_rfl) Try.func7
    (ChangeSpec.witness6 (enc := enc) (C := Try.checked) false ⟨#[], #[.int .i64 0, .slice none 0 0], []⟩ 8 (by kernel_rfl) (by kernel_rfl) (by kernel_rfl) (by kernel_rfl)) ?_
  intro W base args ds gs before hval0 hW hcnd hsz0 _
  have hsz : (DataW.weightsEach Try.prog (Try.f7.params.toList ++ Rows.peersAgeSpec.plain.varTypes Try.prog) (ds ++ gs)).all (· ≤ reachBytes) = true := hsz0
  have hval : ∀ (j : Nat) t v, Try.f7.params[j]? = some t → args[j]? = some v → Value.okWide Try.prog W .any base t v := hval0
  have hW' := hW
  obtain ⟨p, q, hA0, hV, rfl, hfz, hnd⟩ := hW
  have hA : DataW.TrodAll enc Try.prog W 0 (fun _ => true) true Try.f7.params.toList args.toList ds p := hA0
  rw [Try.params7] at hA hval hsz
  obtain ⟨v0, vs0, d0, ds0, p0, q0, hargs, rfl, rfl, h0, r0⟩ := trodAll_cons hA
  obtain ⟨v1, vs1, d1, ds1, p1, q1, rfl, rfl, rfl, h1, r1⟩ := trodAll_cons r0
  obtain ⟨rfl, rfl, rfl⟩ := trodAll_nil r1
  obtain rfl : args = #[v0, v1] := by cases args; simp_all
  obtain ⟨rfl, rfl⟩ := trodVars_none hV
  clear r0 r1
  have k0 := h0
  have lt0 : ∀ x ∈ p0, x.block < W.heap.size := by obtain ⟨m, hm⟩ := k0; exact DataW.trod_lt m _ _ _ hm
  have k1 := h1
  have lt1 : ∀ x ∈ p1, x.block < W.heap.size := by obtain ⟨m, hm⟩ := k1; exact DataW.trod_lt m _ _ _ hm
  have z1 : ∀ n ∈ d1.weights Try.prog 22, n ≤ reachBytes := fun n hn => by simpa using List.all_eq_true.1 hsz _ (DataW.weights_mem_each (j := 1) rfl rfl n hn)
  have f1 : W.noneFrozen p1 := fun b off hm => hfz b off (by simp [hm])
  obtain ⟨a0, rfl, rfl, rfl, w0⟩ := open_int Try.underlying3 (hval 0 3 v0 rfl rfl) h0
  obtain ⟨x1, r1, s1, w1⟩ := open_rowP (hval 1 22 v1 rfl rfl) h1 f1 z1
  clear hA0 hval0
  refine (walk a0 v1 x1 W w0 r1 s1 w1).mono fun e W' ⟨he, bel⟩ => ?_
  subst he
  exact ⟨_, rfl, _, _, _, [], _, [], hW', trodAll_mk1 (shut_bool Try.underlying4 _), (trodAll_cons_mk (Below.trod laidOut (by kernel_rfl) (of_decide_eq_true (by kernel_rfl)) k0 bel lt0) (trodAll_cons_mk (Below.trod laidOut (by kernel_rfl) (of_decide_eq_true (by kernel_rfl)) k1 bel lt1) trodAll_mk0)), rfl, bel.frame _, fun h => by cases h⟩

theorem over : Rows.peersAgeRow.holds Try.pinned (OpenSpec.ofChange Rows.peersAgeSpec) :=
  OpenClaim.holds_of_wide 7 Try.f7 rfl rfl rfl rfl rfl rfl rfl ⟨rfl, rfl, rfl, rfl, rfl⟩ rfl rfl rfl rfl rfl (by kernel_rfl) Try.func7 (by kernel_rfl)
    (of_decide_eq_true (by kernel_rfl)) (by unfold Func.isWrapper; first | (rw [if_pos (by decide +kernel)]; kernel_rfl) | (rw [if_neg (by decide +kernel)]; exact ⟨rfl, rfl⟩))
    (fun os started H enc _ => lifted os started H enc)

end Go.Proofs.Ytajbofkcpmpeoaa.peersAge

namespace Go.Proofs.Ytajbofkcpmpeoaa
/-- The statement, by its short name. -/
theorem peersAge_holds : Rows.PeersAgeSaid := peersAge.over
#print axioms peersAge_holds
end Go.Proofs.Ytajbofkcpmpeoaa
