
/-
  The statement PeersOther: of any list of peers and any two numbers, hearing one leaves all others as they are, or nothing is told.
-/
import Derived.Test.YtajbofkcpmpeoaaRows
import Derived.Test.YtajbofkcpmpeoaaOpen
import Derived.Test.YtajbofkcpmpeoaaPeerLaw
import Derived.Test.YtajbofkcpmpeoaaPeerSet
import Derived.Test.YtajbofkcpmpeoaaOpenP
namespace Go.Proofs.Ytajbofkcpmpeoaa.peersOther
open Go.ChangeShapes Go.WideShapes Go.ChangeAt Go.RowKit
set_option linter.unusedVariables false

/-! ### The walk -/
set_option maxHeartbeats 8000000 in
theorem walk (a0 : Int) (v1 : Value) (x1 : List Pe) (a2 : Int) (w : World) (w0 : (Lit.int .i64 a0).wf = true) (r1 : RowP 0 w.heap.size w v1 x1) (s1 : x1.length * 16 ≤ 140737488351232) (w1 : ∀ x ∈ x1, PeW x) (w2 : (Lit.int .i64 a2).wf = true) :
    Calls Try.prog 6 #[.int .i64 a0, v1, .int .i64 a2] w fun e w' => e = .returned (.bool true) ∧ Below w.heap.size w w' := by
  clear w0 w1 w2
  have hr := r1
  have hz : w.heap.size ≤ w.heap.size := Nat.le_refl _
  obtain ⟨p0, c0, e0, n0, hp0⟩ := hr.pes hz
  subst e0
  clear r1 s1
  by_cases hE : hdE a0 x1 a2 = 0
  · obtain ⟨hs, hd, hdb, hl16, hL⟩ := hdE_zero hE
    obtain ⟨h0, hv, hri, hlen⟩ := psB_iff.1 hs
    have hpl : ∀ p ∈ x1, plB p.n = true := fun p hp => (peB_iff.1 (hv p hp)).1
    have HA := hdI_psB hs hd hdb hl16
    have H1 := other_same (b := a0) hri hpl hd
    have H2 := other_len (b := a0) hri hpl hd
    obtain ⟨H3, H4⟩ := hdI_at (b := a0) (d := a2) x1
    have H5 := hdI_off (b := a0) (d := a2) x1
    generalize hA : hdI a0 x1 a2 = A at *
    generalize posP a0 x1 a2 = m0 at *
    replace HA := toHid HA
    replace H1 := toHid H1
    replace H2 := toHid H2
    replace H5 := toHid H5
    clear hs hdb hri hpl hv hA hd h0
    go_enter Try.func6, Try.ntmps6
    go_wp2_with (first
      | (go_at_call 22; refine (awake7_any _).mono ?_; rintro e w1 ⟨rfl, h1⟩)
      | (go_at_call 10; refine (pHeard_at (hr.below h1 hz) h1.size _ _ hL hE).mono ?_; rintro e w2 ⟨o2, rfl, P2, h2⟩
         have hB2 := h1.on h2
         obtain ⟨pa, ca, rfl, na, hpa⟩ := P2.pes (Nat.le_refl _))
      | (go_at_call 15; refine (num_any _ _).mono ?_; rintro e w' ⟨rfl, hw'⟩; subst w'))
    go_loopw [9, 11] (fun o i wr => ∃ (k : Nat), k ≤ x1.length ∧ i = .int .i64 k ∧ wr.ownsRow w2.heap.size 43 2 o ((x1.take k).filter (ndB a2)).length (((x1.take k).filter (ndB a2)).flatMap PeV) ∧ Below w2.heap.size w2 wr) (fun _ i _ => x1.length - (intOf i).toNat)
    case atStart => exact ⟨0, Nat.zero_le _, rfl, ⟨rfl, .inl ⟨rfl, rfl⟩⟩, Below.refl _ _⟩
    case round =>
      obtain ⟨k, hk, rfl, own, hbr⟩ := hrel
      by_cases hlt : k < x1.length
      · have hlt' : (k : Int) < (x1.length : Int) := by omega
        have hnx := filter_step (p := ndB a2) hlt
        have hol := filter_upto (xs := x1) (p := ndB a2) k
        obtain ⟨bb, off, rfl, _, hbb, hc⟩ := hp0 (by omega)
        have it1 := (hc k hlt).below (hB2.on hbr) hbb
        rw [getD_in _ _ hlt] at it1
        obtain ⟨c1, c2⟩ := it1
        generalize (x1.take k).filter (ndB a2) = out at own hnx hol
        have OA := toHid own
        clear own
        by_cases hin : x1[k].n = a2
        · have hnd : ¬ ndB a2 x1[k] = true := by simp [ndB, hin]
          rw [if_neg hnd, List.append_nil] at hnx
          replace hnx := toHid hnx
          clear hc hp0 hnd hpa
          generalize x1[k] = z at *
          obtain ⟨zn, zm⟩ := z
          dsimp only at c1 c2 hin
          subst hin
          go_wp2
          go_roundw
          case rel => exact ⟨k + 1, by omega, by go_num, by rw [hnx.out]; exact OA.out, hbr⟩
          case measure => simp [intOf]; omega
        · have hnd : ndB a2 x1[k] = true := by simp [ndB, hin]
          rw [if_pos hnd] at hnx
          replace hnx := toHid hnx
          clear hc hp0 hnd hpa
          generalize x1[k] = z at *
          obtain ⟨zn, zm⟩ := z
          dsimp only at c1 c2 hin
          go_wp2_with (at_builtin; refine app_pes rfl (.tmp 42) (.tmp 47) rfl w2.heap.size _ out.length out rfl (OA.out.alloc _) ⟨wr.heap.size, 0, none⟩ 1 1 [⟨zn, zm⟩] rfl rfl (fun j hj => ?_) (by omega) (by have := hbr.size; simp; omega) ?_; · (rw [add_plain, Nat.zero_add]; refine ((Box.newAt _ _ rfl).2.1 j).trans ?_; simp [PeV]))
          intro v' w4 hown4 hgr4 hbel4
          have R1 : Hid (w4.ownsRow w2.heap.size 43 2 v' (out ++ ([⟨zn, zm⟩] : List Pe)).length ((out ++ ([⟨zn, zm⟩] : List Pe)).flatMap PeV)) := toHid (by simpa using hown4)
          clear hown4 hgr4
          go_wp2
          go_roundw
          case rel => exact ⟨k + 1, by omega, by go_num, by rw [hnx.out]; exact R1.out, (hbr.onA _).trans hbel4⟩
          case measure => simp [intOf]; omega
      · have hm2 : k = x1.length := by omega
        subst hm2
        obtain ⟨wL, rfl⟩ : ∃ x, x = wr := ⟨wr, rfl⟩
        rw [List.take_length, ← H1.out] at own
        rw [← H1.out] at H2
        clear hp0 H1
        have RL := toHid (RowC.of_owns (by decide) PeV_len own)
        obtain ⟨pl, cl, rfl, nl, -⟩ := RL.out.pes (Nat.le_refl _)
        clear own
        go_wp2
        go_loopw [10, 12, 13] (fun o at_ i wr => ∃ (j : Nat), j ≤ A.length ∧ i = .int .i64 j ∧ at_ = .int .i64 (if j ≤ m0 then -1 else (m0 : Int)) ∧ wr.ownsRow wL.heap.size 43 2 o ((A.take j).filter (ndB a2)).length (((A.take j).filter (ndB a2)).flatMap PeV) ∧ Below wL.heap.size wL wr) (fun _ _ i _ => A.length - (intOf i).toNat)
        case atStart => exact ⟨0, Nat.zero_le _, rfl, by rw [if_pos (Nat.zero_le _)], ⟨rfl, .inl ⟨rfl, rfl⟩⟩, Below.refl _ _⟩
        case round =>
          obtain ⟨j, hj, rfl, rfl, own, hbs⟩ := hrel
          by_cases hlj : j < A.length
          · have hlj' : (j : Int) < (A.length : Int) := by omega
            have hnx := filter_step (p := ndB a2) hlj
            have hol := filter_upto (xs := A) (p := ndB a2) j
            obtain ⟨bb, off, rfl, _, hbb, hc⟩ := hpa (by omega)
            have it1 := (hc j hlj).below (hbr.on hbs) hbb
            rw [getD_in _ _ hlj] at it1
            obtain ⟨c1, c2⟩ := it1
            generalize (A.take j).filter (ndB a2) = out at own hnx hol
            have OA := toHid own
            clear own
            by_cases hin : j = m0
            · subst hin
              rw [H4] at c1 c2 hnx
              rw [if_neg (by simp [ndB]), List.append_nil] at hnx
              replace hnx := toHid hnx
              rw [if_pos (Nat.le_refl _)]
              have hnw : Hid ((if j + 1 ≤ j then (-1 : Int) else (j : Int)) = (j : Int)) := toHid (if_neg (by omega))
              clear hc hpa
              dsimp only at c1 c2
              go_wp2
              go_roundw
              case rel => exact ⟨j + 1, by omega, by go_num, by rw [hnw.out], by rw [hnx.out]; exact OA.out, hbs⟩
              case measure => simp [intOf]; omega
            · have hne := H5.out j hlj hin
              have hnd : ndB a2 A[j] = true := by simp [ndB, hne]
              rw [if_pos hnd] at hnx
              replace hnx := toHid hnx
              have hnw : Hid ((if j + 1 ≤ m0 then (-1 : Int) else (m0 : Int)) = (if j ≤ m0 then (-1 : Int) else (m0 : Int))) := toHid (by split <;> split <;> omega)
              generalize (if j ≤ m0 then (-1 : Int) else (m0 : Int)) = ax at *
              clear hc hpa hnd H4 H5
              generalize A[j] = z at *
              obtain ⟨zn, zm⟩ := z
              dsimp only at c1 c2 hne
              go_wp2_with (at_builtin; refine app_pes rfl (.tmp 62) (.tmp 67) rfl wL.heap.size _ out.length out rfl (OA.out.alloc _) ⟨wr.heap.size, 0, none⟩ 1 1 [⟨zn, zm⟩] rfl rfl (fun j hj => ?_) (by omega) (by have := hbs.size; simp; omega) ?_; · (rw [add_plain, Nat.zero_add]; refine ((Box.newAt _ _ rfl).2.1 j).trans ?_; simp [PeV]))
              intro v' w4 hown4 hgr4 hbel4
              have R1 : Hid (w4.ownsRow wL.heap.size 43 2 v' (out ++ ([⟨zn, zm⟩] : List Pe)).length ((out ++ ([⟨zn, zm⟩] : List Pe)).flatMap PeV)) := toHid (by simpa using hown4)
              clear hown4 hgr4
              go_wp2
              go_roundw
              case rel => exact ⟨j + 1, by omega, by go_num, by rw [hnw.out], by rw [hnx.out]; exact R1.out, (hbs.onA _).trans hbel4⟩
              case measure => simp [intOf]; omega
          · have hm2 : j = A.length := by omega
            subst hm2
            rw [List.take_length] at own
            rw [if_neg (by omega)]
            have RR := toHid (RowC.of_owns (by decide) PeV_len own)
            obtain ⟨bb, off, rfl, _, hbb, hc⟩ := hpa (by omega)
            have RLs := toHid (RL.out.below hbs (Nat.le_refl _))
            have PA : Hid (∀ w', Below wr.heap.size wr w' → _) := fun w' hw => (P2.below ((hbr.on hbs).on hw) (Nat.le_refl _))
            have HC : Hid (∀ w', Below wr.heap.size wr w' → w'.cell? ⟨bb, off + m0 * 2 + 1, none⟩ = some (.int .i64 0)) := toHid fun w' hw => by
              have := ((hc m0 H3).below ((hbr.on hbs).on hw) hbb).2
              rw [getD_in _ _ H3, H4] at this
              exact this
            have hm0 : (m0 : Int) < (A.length : Int) := by omega
            have hll : (A.length : Int) = ((A.filter (ndB a2)).length : Int) + 1 := by have := H2.out; omega
            have hle2 : w2.heap.size ≤ wr.heap.size := (hbr.on hbs).size
            clear own hpa hc H2 H4 H5 RL
            go_wp2_with (first
              | (go_at_call 14; refine (sameP_at RLs.out RR.out (b := true) (by simp)).mono ?_; rintro e w6 ⟨rfl, h6⟩
                 have d1 := HC.out _ h6)
              | (go_at_call 17; refine (pMay_is (PA.out _ h6) (Nat.le_trans hle2 h6.size) HA.out).mono ?_; rintro e w7 ⟨rfl, h7⟩))
            go_ret
            exact ⟨rfl, (((hB2.on hbr).on hbs).on h6).on h7⟩
  · have hL := hdE_nz hE
    have hE2 : (hdE a0 x1 a2 == 0) = false := by simpa using hE
    obtain ⟨ee, hee⟩ : ∃ ee, hdE a0 x1 a2 = ee := ⟨_, rfl⟩
    rw [hee] at hE hE2
    clear hp0
    go_enter Try.func6, Try.ntmps6
    go_wp2_with (first
      | (go_at_call 22; refine (awake7_any _).mono ?_; rintro e w1 ⟨rfl, h1⟩)
      | (go_at_call 10; refine (pHeard_at (hr.below h1 hz) h1.size _ _ hL hee).mono ?_; rintro e w2 ⟨o2, rfl, P2, h2⟩
         obtain ⟨pa, ca, rfl, -, -⟩ := P2.pes (Nat.le_refl _))
      | (go_at_call 15; refine (num_any _ _).mono ?_; rintro e w' ⟨rfl, hw'⟩; subst w'))
    go_ret
    exact ⟨rfl, h1.on h2⟩

/-! ### The row's step -/
set_option maxRecDepth 100000 in
theorem lifted (os : Os) (started : os.Started) (H : Type) (enc : TypeId × Value → H) :
    ReturnsInHanded {} Try.checked os 6 .any (Rows.peersOtherSpec.pre6 enc Try.prog Try.f6 Rows.peersOtherRow.domain false) (Rows.peersOtherSpec.post enc Try.prog Try.f6 false true false false) := by
  refine returnsInHanded_of_change_sized (C := Try.checked) ownK started (by kernel_rfl) Try.func6
    (ChangeSpec.witness6 (enc := enc) (C := Try.checked) false ⟨#[], #[.int .i64 0, .slice none 0 0, .int .i64 0], []⟩ 8 (by kernel_rfl) (by kernel_rfl) (by kernel_rfl) (by kernel_rfl)) ?_
  intro W base args ds gs before hval0 hW hcnd hsz0 _
  have hsz : (DataW.weightsEach Try.prog (Try.f6.params.toList ++ Rows.peersOtherSpec.plain.varTypes Try.prog) (ds ++ gs)).all (· ≤ reachBytes) = true := hsz0
  have hval : ∀ (j : Nat) t v, Try.f6.params[j]? = some t → args[j]? = some v → Value.okWide Try.prog W .any base t v := hval0
  have hW' := hW
  obtain ⟨p, q, hA0, hV, rfl, hfz, hnd⟩ := hW
  have hA : DataW.TrodAll enc Try.prog W 0 (fun _ => true) true Try.f6.params.toList args.toList ds p := hA0
  rw [Try.params6] at hA hval hsz
  obtain ⟨v0, vs0, d0, ds0, p0, q0, hargs, rfl, rfl, h0, r0⟩ := trodAll_cons hA
  obtain ⟨v1, vs1, d1, ds1, p1, q1, rfl, rfl, rfl, h1, r1⟩ := trodAll_cons r0
  obtain ⟨v2, vs2, d2, ds2, p2, q2, rfl, rfl, rfl, h2, r2⟩ := trodAll_cons r1
  obtain ⟨rfl, rfl, rfl⟩ := trodAll_nil r2
  obtain rfl : args = #[v0, v1, v2] := by cases args; simp_all
  obtain ⟨rfl, rfl⟩ := trodVars_none hV
  clear r0 r1 r2
  have k0 := h0
  have lt0 : ∀ x ∈ p0, x.block < W.heap.size := by obtain ⟨m, hm⟩ := k0; exact DataW.trod_lt m _ _ _ hm
  have k1 := h1
  have lt1 : ∀ x ∈ p1, x.block < W.heap.size := by obtain ⟨m, hm⟩ := k1; exact DataW.trod_lt m _ _ _ hm
  have z1 : ∀ n ∈ d1.weights Try.prog 22, n ≤ reachBytes := fun n hn => by simpa using List.all_eq_true.1 hsz _ (DataW.weights_mem_each (j := 1) rfl rfl n hn)
  have f1 : W.noneFrozen p1 := fun b off hm => hfz b off (by simp [hm])
  have k2 := h2
  have lt2 : ∀ x ∈ p2, x.block < W.heap.size := by obtain ⟨m, hm⟩ := k2; exact DataW.trod_lt m _ _ _ hm
  obtain ⟨a0, rfl, rfl, rfl, w0⟩ := open_int Try.underlying3 (hval 0 3 v0 rfl rfl) h0
  obtain ⟨x1, r1, s1, w1⟩ := open_rowP (hval 1 22 v1 rfl rfl) h1 f1 z1
  obtain ⟨a2, rfl, rfl, rfl, w2⟩ := open_int Try.underlying3 (hval 2 3 v2 rfl rfl) h2
  clear hA0 hval0
  refine (walk a0 v1 x1 a2 W w0 r1 s1 w1 w2).mono fun e W' ⟨he, bel⟩ => ?_
  subst he
  exact ⟨_, rfl, _, _, _, [], _, [], hW', trodAll_mk1 (shut_bool Try.underlying4 _), (trodAll_cons_mk (Below.trod laidOut (by kernel_rfl) (of_decide_eq_true (by kernel_rfl)) k0 bel lt0) (trodAll_cons_mk (Below.trod laidOut (by kernel_rfl) (of_decide_eq_true (by kernel_rfl)) k1 bel lt1) (trodAll_cons_mk (Below.trod laidOut (by kernel_rfl) (of_decide_eq_true (by kernel_rfl)) k2 bel lt2) trodAll_mk0))), rfl, bel.frame _, fun h => by cases h⟩

theorem over : Rows.peersOtherRow.holds Try.pinned (OpenSpec.ofChange Rows.peersOtherSpec) :=
  OpenClaim.holds_of_wide 6 Try.f6 rfl rfl rfl rfl rfl rfl rfl ⟨rfl, rfl, rfl, rfl, rfl⟩ rfl rfl rfl rfl rfl (by kernel_rfl) Try.func6 (by kernel_rfl)
    (of_decide_eq_true (by kernel_rfl)) (by unfold Func.isWrapper; first | (rw [if_pos (by decide +kernel)]; kernel_rfl) | (rw [if_neg (by decide +kernel)]; exact ⟨rfl, rfl⟩))
    (fun os started H enc _ => lifted os started H enc)

end Go.Proofs.Ytajbofkcpmpeoaa.peersOther

namespace Go.Proofs.Ytajbofkcpmpeoaa
/-- The statement, by its short name. -/
theorem peersOther_holds : Rows.PeersOtherSaid := peersOther.over
#print axioms peersOther_holds
end Go.Proofs.Ytajbofkcpmpeoaa
