
/-
  The statement PeersRow: of any number and any list of numbers, who is heard in whatever row (the first twelve, as places) stands in the row of distances.
-/
import Derived.Test.YtajbofkcpmpeoaaRows
import Derived.Test.YtajbofkcpmpeoaaOpen
import Derived.Test.YtajbofkcpmpeoaaPeerLaw
import Derived.Test.YtajbofkcpmpeoaaPeerSort
namespace Go.Proofs.Ytajbofkcpmpeoaa.peersRow
open Go.ChangeShapes Go.WideShapes Go.ChangeAt Go.RowKit
set_option linter.unusedVariables false

/-! ### The walk -/
set_option maxRecDepth 20000 in
set_option maxHeartbeats 8000000 in
theorem walk (a0 : Int) (v1 : Value) (x1 : List Int) (w : World) (w0 : (Lit.int .i64 a0).wf = true) (r1 : RowI 0 w.heap.size w v1 x1) (s1 : x1.length * 8 ≤ 140737488351232) (w1 : ∀ x ∈ x1, (Lit.int .i64 x).wf = true) :
    Calls Try.prog 8 #[.int .i64 a0, v1] w fun e w' => e = .returned (.bool true) ∧ Below w.heap.size w w' := by
  have hAnd := and255
  obtain ⟨b, hbE⟩ : ∃ b, a0 % 256 = b := ⟨_, rfl⟩
  have hb : plB b = true := hbE ▸ place_mod a0
  have hb2 := plB_yes hb
  obtain ⟨p1, c1, rfl, ⟨hl1, _⟩, hc1, hpx⟩ := r1
  unfold maxLen at hc1
  have hn1 : x1.length ≤ 9223372036854775807 := by omega
  obtain ⟨N, hN⟩ : ∃ N, N = min x1.length 12 := ⟨_, rfl⟩
  clear w0 w1 s1 hc1 hl1
  go_enter Try.func8, Try.ntmps8
  go_wp2_with (first
    | (go_at_call 22; refine (awake7_any _).mono ?_; rintro e w1 ⟨rfl, h1⟩))
  clear hbE
  go_loopw [6, 7] (fun o i wr => ∃ (k : Nat), k ≤ N ∧ i = .int .i64 k ∧ (rowP b (mask x1 k)).length ≤ k ∧ RowP 0 wr.heap.size wr o (rowP b (mask x1 k)) ∧ Below w.heap.size w wr) (fun _ i _ => N - (intOf i).toNat)
  case atStart => exact ⟨0, Nat.zero_le _, rfl, by simp [mask, rowP_nil], by rw [show mask x1 0 = [] from rfl, rowP_nil]; exact RowC.nil0, h1⟩
  case round =>
    obtain ⟨k, hk, rfl, hlr, P, hbr⟩ := hrel
    by_cases hlt : k < N
    · have hk1 : k < x1.length := by omega
      have hk2 : (k : Int) < (x1.length : Int) := by omega
      have hk3 : (k : Int) < 12 := by omega
      have hk4 : decide ((k : Int) < 12) = true := decide_eq_true hk3
      have hms := mask_succ x1 k hk1
      have hpl := mask_pls x1 k
      obtain ⟨bb, off, rfl, _, hbb, hc⟩ := hpx (by intro e; rw [e] at hk1; simp at hk1)
      have d1 := (hbr.cell (p := ⟨bb, off + k, none⟩) hbb).trans (hc k hk1).1
      clear hc hpx
      obtain ⟨y, hy⟩ : ∃ y, x1.getD k 0 % 256 = y := ⟨_, rfl⟩
      have hyp : plB y = true := hy ▸ place_mod _
      rw [hy] at hms
      generalize x1.getD k 0 = yy at d1 hy
      by_cases hyb : y = b
      · subst hyb
        have hst : Hid (rowP y (mask x1 (k + 1)) = rowP y (mask x1 k)) := toHid (by rw [hms]; exact rowP_base hb hpl)
        clear hms hpl
        go_wp2
        go_roundw
        case rel => exact ⟨k + 1, by omega, by go_num, by rw [hst.out]; omega, by rw [hst.out]; exact P, hbr⟩
        case measure => simp [intOf]; omega
      · obtain ⟨s1, s2, s3⟩ := rowP_step hb hpl hyp hyb hlr (by omega)
        rw [← hms] at s1 s3
        replace s1 := toHid s1
        replace s2 := toHid s2
        replace s3 := toHid s3
        have hyb2 : (y == b) = false := by simpa using hyb
        clear hms hpl
        go_wp2_with (first
          | (go_at_call 10; refine (pHeard_at P (Nat.le_refl _) _ _ s1.out s2.out).mono ?_; rintro e w3 ⟨o3, rfl, P3, h3⟩)
          | (go_at_call 15; refine (num_any _ _).mono ?_; rintro e w' ⟨rfl, hw'⟩; subst w'))
        go_roundw
        case rel => exact ⟨k + 1, by omega, by go_num, s3.out, P3.wide (Nat.zero_le _) (Nat.le_refl _), hbr.on h3⟩
        case measure => simp [intOf]; omega
    · obtain rfl : k = N := by omega
      have hpl := mask_pls x1 k
      have hkl : k ≤ x1.length := by omega
      have hk12 : k ≤ 12 := by omega
      have hexit : (¬ (k : Int) < (x1.length : Int)) ∨ ((k : Int) < (x1.length : Int) ∧ ¬ (k : Int) < 12) := by omega
      have hexit2 := toHid hexit
      clear hN hk hlt h1
      obtain ⟨pa, ca, rfl, na, hpa⟩ := P.pes (Nat.le_refl _)
      obtain ⟨xs, hxs⟩ : ∃ xs, Hid (xs = mask x1 k) := ⟨_, toHid rfl⟩
      rw [← hxs.out] at hpa na hpl hlr P
      rw [← hxs.out]
      have HC : Hid (∀ j, j < k → ∃ bb off, p1 = some ⟨bb, off, none⟩ ∧ wr.cell? ⟨bb, off + j, none⟩ = some (.int .i64 (x1.getD j 0))) := toHid fun j hj => by
        have hj1 : j < x1.length := by omega
        obtain ⟨bb, off, e, _, hbb, hc⟩ := hpx (by intro e; rw [e] at hj1; simp at hj1)
        exact ⟨bb, off, e, (hbr.cell (p := ⟨bb, off + j, none⟩) hbb).trans (hc j hj1).1⟩
      clear hpx P
      replace hpa := toHid hpa
      rcases hexit with hx1 | ⟨hx1, hx2⟩
      all_goals
        first | (have hx3 : decide ((k : Int) < 12) = false := decide_eq_false hx2) | skip
        go_wp2
        clear hx1
        first | clear hx2 hx3 | skip
        go_loop [11, 12] (fun kk dd => ∃ e : Nat, e ≤ 255 ∧ dd = .int .i64 ((e : Int) + 1) ∧ kk = .int .i64 ((rowTo b xs e).length : Int)) (fun _ dd => 256 - (intOf dd).toNat)
        case atStart => exact ⟨0, by omega, rfl, rfl⟩
        case round =>
          obtain ⟨e, he, rfl, rfl⟩ := hrel
          by_cases hel : e < 255
          · have he1 : (e : Int) + 1 < 256 := by omega
            have he2 : (0 : Int) ≤ (e : Int) + 1 := by omega
            have hle := rowTo_le b xs e
            obtain ⟨v, hv⟩ : ∃ v, (b + ((e : Int) + 1)) % 256 = v := ⟨_, rfl⟩
            go_wp2
            go_loop [13, 14] (fun inn i => ∃ j : Nat, j ≤ k ∧ i = .int .i64 j ∧ inn = .bool (decide (v ∈ mask x1 j))) (fun _ i => k - (intOf i).toNat)
            case atStart => exact ⟨0, Nat.zero_le _, rfl, by simp [mask]⟩
            case round =>
              obtain ⟨j, hj, rfl, rfl⟩ := hrel
              by_cases hjk : j < k
              · have hj1 : (j : Int) < (x1.length : Int) := by omega
                have hj2 : (j : Int) < 12 := by omega
                have hj3 : decide ((j : Int) < 12) = true := decide_eq_true hj2
                have hms := mask_succ x1 j (by omega)
                obtain ⟨bb, off, rfl, d1⟩ := HC.out j hjk
                obtain ⟨y, hy⟩ : ∃ y, x1.getD j 0 % 256 = y := ⟨_, rfl⟩
                rw [hy] at hms
                generalize x1.getD j 0 = yy at d1 hy
                by_cases hin : v ∈ mask x1 j
                · have e1 : decide (v ∈ mask x1 j) = true := decide_eq_true hin
                  have e2 : Hid (decide (v ∈ mask x1 (j + 1)) = true) := toHid (decide_eq_true (by rw [hms]; exact List.mem_append_left _ hin))
                  rw [e1]
                  clear hms hin e1
                  go_wp2
                  go_round
                  case rel => exact ⟨j + 1, by omega, by go_num, by rw [e2.out]⟩
                  case measure => simp [intOf]; omega
                · have e1 : decide (v ∈ mask x1 j) = false := decide_eq_false hin
                  by_cases hyv : y = v
                  · subst hyv
                    have e2 : Hid (decide (y ∈ mask x1 (j + 1)) = true) := toHid (decide_eq_true (by rw [hms]; exact List.mem_append_right _ (List.mem_singleton.2 rfl)))
                    rw [e1]
                    clear hms hin e1
                    go_wp2
                    go_round
                    case rel => exact ⟨j + 1, by omega, by go_num, by rw [e2.out]⟩
                    case measure => simp [intOf]; omega
                  · have e2 : Hid (decide (v ∈ mask x1 (j + 1)) = false) := toHid (decide_eq_false (by
                      rw [hms]
                      intro h
                      rcases List.mem_append.1 h with h | h
                      · exact hin h
                      · exact hyv (List.mem_singleton.1 h).symm))
                    have hyv2 : (y == v) = false := by simpa using hyv
                    rw [e1]
                    clear hms hin e1
                    go_wp2
                    go_round
                    case rel => exact ⟨j + 1, by omega, by go_num, by rw [e2.out]⟩
                    case measure => simp [intOf]; omega
              · obtain rfl : j = k := by omega
                rw [← hxs.out]
                by_cases hin : v ∈ xs
                · have e1 : decide (v ∈ xs) = true := decide_eq_true hin
                  rw [e1]
                  obtain ⟨g1, g2, g3⟩ := rowP_at hel (by rw [hv]; exact hin)
                  obtain ⟨ba, offa, rfl, _, _, hca⟩ := hpa.out (by omega)
                  obtain ⟨q1, q2⟩ := hca _ g1
                  rw [g2, hv] at q1 q2
                  dsimp only at q1 q2
                  have g4 : ¬ ((rowP b xs).length : Int) ≤ ((rowTo b xs e).length : Int) := by omega
                  have g5 : decide (((rowP b xs).length : Int) ≤ ((rowTo b xs e).length : Int)) = false := decide_eq_false g4
                  have g6 : ((rowTo b xs e).length : Int) < ((rowP b xs).length : Int) := by omega
                  have g7 : Hid (((rowTo b xs (e + 1)).length : Int) = ((rowTo b xs e).length : Int) + 1) := toHid (by rw [g3]; rfl)
                  clear e1 hin g2 g3 hca
                  generalize (rowTo b xs e).length = kk at *
                  rcases hexit2.out with hx1 | ⟨hx1, hx2⟩
                  · go_wp2
                    go_round
                    case rel => exact ⟨e + 1, by omega, by go_num, by rw [g7.out]⟩
                    case measure => simp [intOf]; omega
                  · have hx3 : decide ((j : Int) < 12) = false := decide_eq_false (by omega)
                    go_wp2
                    go_round
                    case rel => exact ⟨e + 1, by omega, by go_num, by rw [g7.out]⟩
                    case measure => simp [intOf]; omega
                · have e1 : decide (v ∈ xs) = false := decide_eq_false hin
                  rw [e1]
                  have g3 := rowP_off (b := b) (xs := xs) (e := e) (by rw [hv]; exact hin)
                  have g7 : Hid (((rowTo b xs (e + 1)).length : Int) = ((rowTo b xs e).length : Int)) := toHid (by rw [g3])
                  clear e1 hin g3
                  generalize (rowTo b xs e).length = kk at *
                  rcases hexit2.out with hx1 | ⟨hx1, hx2⟩
                  · go_wp2
                    go_round
                    case rel => exact ⟨e + 1, by omega, by go_num, by rw [g7.out]⟩
                    case measure => simp [intOf]; omega
                  · have hx3 : decide ((j : Int) < 12) = false := decide_eq_false (by omega)
                    go_wp2
                    go_round
                    case rel => exact ⟨e + 1, by omega, by go_num, by rw [g7.out]⟩
                    case measure => simp [intOf]; omega
          · obtain rfl : e = 255 := by omega
            rw [rowP_end]
            go_wp2
            go_ret
            exact ⟨rfl, hbr⟩

/-! ### The row's step -/
set_option maxRecDepth 100000 in
theorem lifted (os : Os) (started : os.Started) (H : Type) (enc : TypeId × Value → H) :
    ReturnsInHanded {} Try.checked os 8 .any (Rows.peersRowSpec.pre6 enc Try.prog Try.f8 Rows.peersRowRow.domain false) (Rows.peersRowSpec.post enc Try.prog Try.f8 false true false false) := by
  refine returnsInHanded_of_change_sized (C := Try.checked) ownK started (by kernel_rfl) Try.func8
    (ChangeSpec.witness6 (enc := enc) (C := Try.checked) false ⟨#[], #[.int .i64 0, .slice none 0 0], []⟩ 8 (by kernel_rfl) (by kernel_rfl) (by kernel_rfl) (by kernel_rfl)) ?_
  intro W base args ds gs before hval0 hW hcnd hsz0 _
  have hsz : (DataW.weightsEach Try.prog (Try.f8.params.toList ++ Rows.peersRowSpec.plain.varTypes Try.prog) (ds ++ gs)).all (· ≤ reachBytes) = true := hsz0
  have hval : ∀ (j : Nat) t v, Try.f8.params[j]? = some t → args[j]? = some v → Value.okWide Try.prog W .any base t v := hval0
  have hW' := hW
  obtain ⟨p, q, hA0, hV, rfl, hfz, hnd⟩ := hW
  have hA : DataW.TrodAll enc Try.prog W 0 (fun _ => true) true Try.f8.params.toList args.toList ds p := hA0
  rw [Try.params8] at hA hval hsz
  obtain ⟨v0, vs0, d0, ds0, p0, q0, hargs, rfl, rfl, h0, r0⟩ := trodAll_cons hA
  obtain ⟨v1, vs1, d1, ds1, p1, q1, rfl, rfl, rfl, h1, r1⟩ := trodAll_cons r0
  obtain ⟨rfl, rfl, rfl⟩ := trodAll_nil r1
  obtain rfl : args = #[v0, v1] := by cases args; simp_all
  obtain ⟨rfl, rfl⟩ := trodVars_none hV
  clear r0 r1
  have k0 := h0
  have lt0 : ∀ x ∈ p0, x.block < W.heap.size := by obtain ⟨m, hm⟩ := k0; exact DataW.trod_lt m _ _ _ hm
  have k1 := h1
  have lt1 : ∀ x ∈ p1, x.block < W.heap.size := by obtain ⟨m, hm⟩ := k1; exact DataW.trod_lt m _ _ _ hm
  have z1 : ∀ n ∈ d1.weights Try.prog 29, n ≤ reachBytes := fun n hn => by simpa using List.all_eq_true.1 hsz _ (DataW.weights_mem_each (j := 1) rfl rfl n hn)
  have f1 : W.noneFrozen p1 := fun b off hm => hfz b off (by simp [hm])
  obtain ⟨a0, rfl, rfl, rfl, w0⟩ := open_int Try.underlying3 (hval 0 3 v0 rfl rfl) h0
  obtain ⟨x1, r1, s1, w1⟩ := open_rowI (hval 1 29 v1 rfl rfl) h1 f1 z1
  clear hA0 hval0
  refine (walk a0 v1 x1 W w0 r1 s1 w1).mono fun e W' ⟨he, bel⟩ => ?_
  subst he
  exact ⟨_, rfl, _, _, _, [], _, [], hW', trodAll_mk1 (shut_bool Try.underlying4 _), (trodAll_cons_mk (Below.trod laidOut (by kernel_rfl) (of_decide_eq_true (by kernel_rfl)) k0 bel lt0) (trodAll_cons_mk (Below.trod laidOut (by kernel_rfl) (of_decide_eq_true (by kernel_rfl)) k1 bel lt1) trodAll_mk0)), rfl, bel.frame _, fun h => by cases h⟩

theorem over : Rows.peersRowRow.holds Try.pinned (OpenSpec.ofChange Rows.peersRowSpec) :=
  OpenClaim.holds_of_wide 8 Try.f8 rfl rfl rfl rfl rfl rfl rfl ⟨rfl, rfl, rfl, rfl, rfl⟩ rfl rfl rfl rfl rfl (by kernel_rfl) Try.func8 (by kernel_rfl)
    (of_decide_eq_true (by kernel_rfl)) (by unfold Func.isWrapper; first | (rw [if_pos (by decide +kernel)]; kernel_rfl) | (rw [if_neg (by decide +kernel)]; exact ⟨rfl, rfl⟩))
    (fun os started H enc _ => lifted os started H enc)

end Go.Proofs.Ytajbofkcpmpeoaa.peersRow

namespace Go.Proofs.Ytajbofkcpmpeoaa
/-- The statement, by its short name. -/
theorem peersRow_holds : Rows.PeersRowSaid := peersRow.over
#print axioms peersRow_holds
end Go.Proofs.Ytajbofkcpmpeoaa
