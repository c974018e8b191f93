/-
  The statement StoreMerge: two stores that are put into each other are the same, where there is room.
-/
import Derived.Test.YtmbommkehchchaaRows
import Derived.Test.YtmbommkehchchaaOpen
import Derived.Test.YtmbommkehchchaaStoreLaw
import Derived.Test.YtmbommkehchchaaStorePut
import Derived.Test.YtmbommkehchchaaOpenT
namespace Go.Proofs.Ytmbommkehchchaa.storeMerge
open Go.ChangeShapes Go.WideShapes Go.ChangeAt Go.RowKit
set_option linter.unusedVariables false

/-! ### The walk -/
set_option maxHeartbeats 4000000 in
theorem walk (v0 : Value) (x0 : List It) (v1 : Value) (x1 : List It) (w : World) (r0 : RowT 0 w.heap.size w v0 x0) (s0 : x0.length * 40 ≤ 140737488351232) (w0 : ∀ x ∈ x0, ItW x) (r1 : RowT 0 w.heap.size w v1 x1) (s1 : x1.length * 40 ≤ 140737488351232) (w1 : ∀ x ∈ x1, ItW x) :
    Calls Try.prog 7 #[v0, v1] w fun e w' => e = .returned (.bool true) ∧ Below w.heap.size w w' := by
  clear w0 w1
  have hl0 : x0.length * 40 ≤ 140737488351232 := s0
  have hl1 : x1.length * 40 ≤ 140737488351232 := s1
  clear s0 s1
  have t1 := trivial
  have t2 := trivial
  have R0 := r0
  have R1 := r1
  obtain ⟨p0, c0, e0, n0, hp0⟩ := r0.its (Nat.le_refl _)
  obtain ⟨p1, c1, e1, n1, hp1⟩ := r1.its (Nat.le_refl _)
  subst e0 e1
  clear r0 r1
  rcases Bool.eq_false_or_eq_true (stB x0) with hs0 | hs0
  · rcases Bool.eq_false_or_eq_true (stB x1) with hs1 | hs1
    · by_cases hfit : x0.length + x1.length ≤ 16
      · obtain ⟨v0, so0, _⟩ := stB_iff.1 hs0
        obtain ⟨v1, so1, _⟩ := stB_iff.1 hs1
        have f1 : ¬ (16 : Int) < (x0.length : Int) + (x1.length : Int) := by omega
        have f1' : decide ((16 : Int) < (x0.length : Int) + (x1.length : Int)) = false := by simpa using f1
        have f2 : (x0.length : Int) ≤ 16 := by omega
        have f3 : (x1.length : Int) ≤ 16 := by omega
        have A1 := toHid (fun m hm => fold_put v0 so0 v1 (m := m) hm hfit)
        have A2 := toHid (fun m hm => fold_put v1 so1 v0 (m := m) hm (by omega))
        have hmer := toHid (fold_merge so0 so1 v0 v1)
        have hst : Hid (stB (fold x0 x1) = true) := stB_iff.2 ⟨fold_val v0 v1, fold_srt so0, Nat.le_trans (fold_len _ _) hfit⟩
        have hfl : Hid (∀ m, (fold x0 (x1.take m)).length * 40 ≤ 140737488351232) := fun m => by have := fold_len (x1.take m) x0; simp only [List.length_take] at this; omega
        have hfm : Hid (∀ m, (fold x1 (x0.take m)).length * 40 ≤ 140737488351232) := fun m => by have := fold_len (x0.take m) x1; simp only [List.length_take] at this; omega
        replace hs0 := toHid hs0
        replace hs1 := toHid hs1
        clear v0 so0 v1 so1
        go_enter Try.func7, Try.ntmps7
        go_wp2_with (first
          | (go_at_call 20; refine (awake5_any _).mono ?_; rintro e w1 ⟨rfl, h1⟩
             have hk := h1)
          | (go_at_call 16; clear t1; refine (sMay_at (R0.below hk (Nat.le_refl _)) hk.size hl0 hs0.out).mono ?_; rintro e wn ⟨rfl, hn⟩; replace hk : Below w.heap.size w wn := hk.on hn)
          | (go_at_call 16; refine (sMay_at (R1.below hk (Nat.le_refl _)) hk.size hl1 hs1.out).mono ?_; rintro e wn ⟨rfl, hn⟩; replace hk : Below w.heap.size w wn := hk.on hn)
        )
        go_loopw [5, 7] (fun a i wr => ∃ (m lo hi : Nat), m ≤ x1.length ∧ i = .int .i64 m ∧ RowT lo hi wr a (fold x0 (x1.take m)) ∧ hi ≤ wr.heap.size ∧ Below w.heap.size w wr) (fun _ i _ => x1.length - (intOf i).toNat)
        case atStart => exact ⟨0, _, _, Nat.zero_le _, rfl, R0.below hk (Nat.le_refl _), hk.size, hk⟩
        case round =>
          obtain ⟨m, lo, hi, hm, rfl, rowA, hhi, hbr⟩ := hrel
          by_cases hlt : m < x1.length
          · have hlt' : (m : Int) < (x1.length : Int) := by omega
            obtain ⟨b, off, rfl, _, hb, hc⟩ := hp1 (by omega)
            have it1 := (hc m hlt).below hbr hb
            have hd := A1.out m hlt
            rw [getD_at _ _ hlt] at it1
            clear hc hp0 hp1 A1 A2
            generalize x1[m] = z at *
            obtain ⟨zk, zc, zu, zx, zg⟩ := z
            obtain ⟨d1, d2, d3, d4, d5⟩ := it1
            dsimp only at d1 d2 d3 d4 d5
            replace hd := toHid hd
            go_wp2_with (first
              | (go_at_call 10; refine (sPut_at rowA hhi (hfl.out m) _ _ _ _ _ hd.out.1 hd.out.2).mono ?_; rintro e w5 ⟨o5, rfl, P5, h5⟩)
              | (go_at_call 15; refine (num_any _ _).mono ?_; rintro e w' ⟨rfl, hw'⟩; subst w'))
            go_roundw
            case rel => exact ⟨m + 1, _, _, by omega, by go_num, P5, Nat.le_refl _, hbr.on h5⟩
            case measure => simp [intOf]; omega
          · have hme : m = x1.length := by omega
            subst hme
            rw [List.take_length] at rowA
            clear A1 hp1
            go_wp2
            go_loopw [6, 10] (fun bv i wx => ∃ (m lo2 hi2 : Nat), m ≤ x0.length ∧ i = .int .i64 m ∧ RowT lo2 hi2 wx bv (fold x1 (x0.take m)) ∧ hi2 ≤ wx.heap.size ∧ Below wr.heap.size wr wx) (fun _ i _ => x0.length - (intOf i).toNat)
            case atStart => exact ⟨0, _, _, Nat.zero_le _, rfl, R1.below hbr (Nat.le_refl _), hbr.size, Below.refl _ _⟩
            case round =>
              obtain ⟨m, lo2, hi2, hm2, rfl, rowB, hhi2, hbr2⟩ := hrel
              by_cases hlt2 : m < x0.length
              · have hlt2' : (m : Int) < (x0.length : Int) := by omega
                obtain ⟨b, off, rfl, _, hb, hc⟩ := hp0 (by omega)
                have it1 := (hc m hlt2).below (hbr.on hbr2) hb
                have hd := A2.out m hlt2
                rw [getD_at _ _ hlt2] at it1
                clear hc hp0 A2
                generalize x0[m] = z at *
                obtain ⟨zk, zc, zu, zx, zg⟩ := z
                obtain ⟨d1, d2, d3, d4, d5⟩ := it1
                dsimp only at d1 d2 d3 d4 d5
                replace hd := toHid hd
                go_wp2_with (first
                  | (go_at_call 10; refine (sPut_at rowB hhi2 (hfm.out m) _ _ _ _ _ hd.out.1 hd.out.2).mono ?_; rintro e w5 ⟨o5, rfl, P5, h5⟩)
                  | (go_at_call 15; refine (num_any _ _).mono ?_; rintro e w' ⟨rfl, hw'⟩; subst w'))
                go_roundw
                case rel => exact ⟨m + 1, _, _, by omega, by go_num, P5, Nat.le_refl _, hbr2.on h5⟩
                case measure => simp [intOf]; omega
              · have hme : m = x0.length := by omega
                subst hme
                rw [List.take_length] at rowB
                have hfl0 := hfl.out x1.length
                rw [List.take_length] at hfl0
                clear A2 hp0
                go_wp2_with (first
                  | (go_at_call 14; refine (same_at (rowA.below hbr2 hhi) rowB (b := true) (by rw [hmer.out]; simp)).mono ?_; rintro e w5 ⟨rfl, h5⟩
                     have rowA5 := (rowA.below hbr2 hhi).below h5 (Nat.le_trans hhi hbr2.size))
                  | (go_at_call 16; refine (sMay_at rowA5 (Nat.le_trans (Nat.le_trans hhi hbr2.size) h5.size) hfl0 hst.out).mono ?_; rintro e w6 ⟨rfl, h6⟩))
                go_ret
                exact ⟨rfl, (hbr.on hbr2).on (h5.on h6)⟩
      · have f1 : (16 : Int) < (x0.length : Int) + (x1.length : Int) := by omega
        have f2 : (x0.length : Int) ≤ 16 := by have := (stB_iff.1 hs0).2.2; omega
        have f3 : (x1.length : Int) ≤ 16 := by have := (stB_iff.1 hs1).2.2; omega
        replace hs0 := toHid hs0
        replace hs1 := toHid hs1
        clear hp0 hp1
        go_enter Try.func7, Try.ntmps7
        go_wp2_with (first
          | (go_at_call 20; refine (awake5_any _).mono ?_; rintro e w1 ⟨rfl, h1⟩
             have hk := h1)
          | (go_at_call 16; clear t1; refine (sMay_at (R0.below hk (Nat.le_refl _)) hk.size hl0 hs0.out).mono ?_; rintro e wn ⟨rfl, hn⟩; replace hk : Below w.heap.size w wn := hk.on hn)
          | (go_at_call 16; refine (sMay_at (R1.below hk (Nat.le_refl _)) hk.size hl1 hs1.out).mono ?_; rintro e wn ⟨rfl, hn⟩; replace hk : Below w.heap.size w wn := hk.on hn)
          | (go_at_call 17; clear t2; refine (rMay_at (R0.below hk (Nat.le_refl _)) hk.size hs0.out).mono ?_; rintro e wn ⟨rfl, hn⟩; replace hk : Below w.heap.size w wn := hk.on hn)
          | (go_at_call 17; refine (rMay_at (R1.below hk (Nat.le_refl _)) hk.size hs1.out).mono ?_; rintro e wn ⟨rfl, hn⟩; replace hk : Below w.heap.size w wn := hk.on hn)
        )
        go_ret
        exact ⟨rfl, hk⟩
    · replace hs0 := toHid hs0
      replace hs1 := toHid hs1
      clear hp0 hp1
      go_enter Try.func7, Try.ntmps7
      go_wp2_with (first
        | (go_at_call 20; refine (awake5_any _).mono ?_; rintro e w1 ⟨rfl, h1⟩
           have hk := h1)
        | (go_at_call 16; clear t1; refine (sMay_at (R0.below hk (Nat.le_refl _)) hk.size hl0 hs0.out).mono ?_; rintro e wn ⟨rfl, hn⟩; replace hk : Below w.heap.size w wn := hk.on hn)
        | (go_at_call 16; refine (sMay_at (R1.below hk (Nat.le_refl _)) hk.size hl1 hs1.out).mono ?_; rintro e wn ⟨rfl, hn⟩; replace hk : Below w.heap.size w wn := hk.on hn)
        | (go_at_call 17; clear t2; refine (rMay_at (R0.below hk (Nat.le_refl _)) hk.size hs0.out).mono ?_; rintro e wn ⟨rfl, hn⟩; replace hk : Below w.heap.size w wn := hk.on hn)
        | (go_at_call 17; refine (rMay_at (R1.below hk (Nat.le_refl _)) hk.size hs1.out).mono ?_; rintro e wn ⟨rfl, hn⟩; replace hk : Below w.heap.size w wn := hk.on hn)
      )
      go_ret
      exact ⟨rfl, hk⟩
  · replace hs0 := toHid hs0
    clear hp0 hp1
    go_enter Try.func7, Try.ntmps7
    go_wp2_with (first
      | (go_at_call 20; refine (awake5_any _).mono ?_; rintro e w1 ⟨rfl, h1⟩
         have hk := h1)
      | (go_at_call 16; refine (sMay_at (R0.below hk (Nat.le_refl _)) hk.size hl0 hs0.out).mono ?_; rintro e wn ⟨rfl, hn⟩; replace hk : Below w.heap.size w wn := hk.on hn)
      | (go_at_call 17; refine (rMay_at (R0.below hk (Nat.le_refl _)) hk.size hs0.out).mono ?_; rintro e wn ⟨rfl, hn⟩; replace hk : Below w.heap.size w wn := hk.on hn)
    )
    go_ret
    exact ⟨rfl, hk⟩

/-! ### The row's step -/
set_option maxRecDepth 100000 in
theorem lifted (os : Os) (started : os.Started) (H : Type) (enc : TypeId × Value → H) :
    ReturnsInHanded {} Try.checked os 7 .any (Rows.storeMergeSpec.pre6 enc Try.prog Try.f7 Rows.storeMergeRow.domain false) (Rows.storeMergeSpec.post enc Try.prog Try.f7 false true false false) := by
  refine returnsInHanded_of_change_sized (C := Try.checked) ownK started (by kernel_rfl) Try.func7
    (ChangeSpec.witness6 (enc := enc) (C := Try.checked) false ⟨#[], #[.slice none 0 0, .slice none 0 0], []⟩ 8 (by kernel_rfl) (by kernel_rfl) (by kernel_rfl) (by kernel_rfl)) ?_
  intro W base args ds gs before hval0 hW hcnd hsz0 _
  have hsz : (DataW.weightsEach Try.prog (Try.f7.params.toList ++ Rows.storeMergeSpec.plain.varTypes Try.prog) (ds ++ gs)).all (· ≤ reachBytes) = true := hsz0
  have hval : ∀ (j : Nat) t v, Try.f7.params[j]? = some t → args[j]? = some v → Value.okWide Try.prog W .any base t v := hval0
  have hW' := hW
  obtain ⟨p, q, hA0, hV, rfl, hfz, hnd⟩ := hW
  have hA : DataW.TrodAll enc Try.prog W 0 (fun _ => true) true Try.f7.params.toList args.toList ds p := hA0
  rw [Try.params7] at hA hval hsz
  obtain ⟨v0, vs0, d0, ds0, p0, q0, hargs, rfl, rfl, h0, r0⟩ := trodAll_cons hA
  obtain ⟨v1, vs1, d1, ds1, p1, q1, rfl, rfl, rfl, h1, r1⟩ := trodAll_cons r0
  obtain ⟨rfl, rfl, rfl⟩ := trodAll_nil r1
  obtain rfl : args = #[v0, v1] := by cases args; simp_all
  obtain ⟨rfl, rfl⟩ := trodVars_none hV
  clear r0 r1
  have k0 := h0
  have lt0 : ∀ x ∈ p0, x.block < W.heap.size := by obtain ⟨m, hm⟩ := k0; exact DataW.trod_lt m _ _ _ hm
  have z0 : ∀ n ∈ d0.weights Try.prog 22, n ≤ reachBytes := fun n hn => by simpa using List.all_eq_true.1 hsz _ (DataW.weights_mem_each (j := 0) rfl rfl n hn)
  have f0 : W.noneFrozen p0 := fun b off hm => hfz b off (by simp [hm])
  have k1 := h1
  have lt1 : ∀ x ∈ p1, x.block < W.heap.size := by obtain ⟨m, hm⟩ := k1; exact DataW.trod_lt m _ _ _ hm
  have z1 : ∀ n ∈ d1.weights Try.prog 22, n ≤ reachBytes := fun n hn => by simpa using List.all_eq_true.1 hsz _ (DataW.weights_mem_each (j := 1) rfl rfl n hn)
  have f1 : W.noneFrozen p1 := fun b off hm => hfz b off (by simp [hm])
  obtain ⟨x0, r0, s0, w0⟩ := open_rowT (hval 0 22 v0 rfl rfl) h0 f0 z0
  obtain ⟨x1, r1, s1, w1⟩ := open_rowT (hval 1 22 v1 rfl rfl) h1 f1 z1
  clear hA0 hval0
  refine (walk v0 x0 v1 x1 W r0 s0 w0 r1 s1 w1).mono fun e W' ⟨he, bel⟩ => ?_
  subst he
  exact ⟨_, rfl, _, _, _, [], _, [], hW', trodAll_mk1 (shut_bool Try.underlying4 _), (trodAll_cons_mk (Below.trod laidOut (by kernel_rfl) (of_decide_eq_true (by kernel_rfl)) k0 bel lt0) (trodAll_cons_mk (Below.trod laidOut (by kernel_rfl) (of_decide_eq_true (by kernel_rfl)) k1 bel lt1) trodAll_mk0)), rfl, bel.frame _, fun h => by cases h⟩

theorem over : Rows.storeMergeRow.holds Try.pinned (OpenSpec.ofChange Rows.storeMergeSpec) :=
  OpenClaim.holds_of_wide 7 Try.f7 rfl rfl rfl rfl rfl rfl rfl ⟨rfl, rfl, rfl, rfl, rfl⟩ rfl rfl rfl rfl rfl (by kernel_rfl) Try.func7 (by kernel_rfl)
    (of_decide_eq_true (by kernel_rfl)) (by unfold Func.isWrapper; first | (rw [if_pos (by decide +kernel)]; kernel_rfl) | (rw [if_neg (by decide +kernel)]; exact ⟨rfl, rfl⟩))
    (fun os started H enc _ => lifted os started H enc)

end Go.Proofs.Ytmbommkehchchaa.storeMerge

namespace Go.Proofs.Ytmbommkehchchaa
/-- The statement, by its short name. -/
theorem storeMerge_holds : Rows.StoreMergeSaid := storeMerge.over
#print axioms storeMerge_holds
end Go.Proofs.Ytmbommkehchchaa
