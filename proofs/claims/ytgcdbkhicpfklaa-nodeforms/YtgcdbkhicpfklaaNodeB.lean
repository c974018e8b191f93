
/-
  Contracts of package node: which nodes may be; a new one.
-/
import Derived.Test.YtgcdbkhicpfklaaNodeA
import Derived.Test.YtgcdbkhicpfklaaViewA
import Derived.Test.YtgcdbkhicpfklaaStoreB
import Derived.Test.YtgcdbkhicpfklaaPassB
namespace Go.Proofs.Ytgcdbkhicpfklaa
open Go.ChangeShapes Go.WideShapes Go.ChangeAt Go.RowKit

theorem vwB_none (i : Int) : vwB i [] [] = plB i := by
  cases h : plB i with
  | true =>
    rw [vwB_iff]
    refine ⟨?_, by decide +kernel, by simp, by simp⟩
    rw [psB_iff]
    simp [h]
  | false =>
    rw [Bool.eq_false_iff]
    intro e
    have := (psB_iff.1 (vwB_iff.1 e).1).1
    rw [h] at this
    cases this

theorem ndB_down (i : Int) (ps : List Pe) (is : List Int) (ts : List It) (ls : List Te) : ndB ⟨false, i, ps, is, ts, ls⟩ = (vwB i ps is && barB ps.length is.length ts.length ls.length) := by
  have e : ndB ⟨false, i, ps, is, ts, ls⟩ = (decide (ps.length + is.length + ts.length + ls.length = 0) && plB i) := by simp [ndB]
  rw [e]
  by_cases h : ps.length + is.length + ts.length + ls.length = 0
  · have z1 : ps = [] := List.eq_nil_of_length_eq_zero (by omega)
    have z2 : is = [] := List.eq_nil_of_length_eq_zero (by omega)
    have z3 : ts = [] := List.eq_nil_of_length_eq_zero (by omega)
    have z4 : ls = [] := List.eq_nil_of_length_eq_zero (by omega)
    subst z1 z2 z3 z4
    simp [vwB_none, barB]
  · have k : barB ps.length is.length ts.length ls.length = false := by
      rw [Bool.eq_false_iff]
      intro k
      simp only [barB, Bool.and_eq_true, decide_eq_true_eq] at k
      omega
    rw [k, decide_eq_false h]
    simp
theorem ndB_up (i : Int) (ps : List Pe) (is : List Int) (ts : List It) (ls : List Te) : ndB ⟨true, i, ps, is, ts, ls⟩ = (vwB i ps is && (stB ts && lgB ls)) := by
  have e : ndB ⟨true, i, ps, is, ts, ls⟩ = (ls.all teB && (vwB i ps is && (stB ts && decide (ls.length ≤ 64)))) := by simp [ndB]
  rw [e, lgB]
  cases ls.all teB <;> simp

set_option maxHeartbeats 2000000 in
theorem nMay_down {lo hi : Nat} {w : World} {p q r s : Value} {ps : List Pe} {is : List Int} {ts : List It} {ls : List Te} (i : Int) (h : NdAt lo hi w p q r s ps is ts ls) (hh : hi ≤ w.heap.size) :
    Calls Try.prog 13 #[.agg #[.bool false, .int .i64 i, p, q, r, s]] w fun e w' => e = .returned (.bool (ndB ⟨false, i, ps, is, ts, ls⟩)) ∧ Below w.heap.size w w' := by
  rw [ndB_down]
  have H1 := toHid (fun o : Obj => vMay_any i (h.vw.alloc o) (Nat.le_trans hh (by simp)))
  obtain ⟨a, c, a', c', a2, c2, a3, c3, rfl, rfl, rfl, rfl⟩ := h.shape
  have H2 := toHid (fun W : World => nKnows_any false i a a' a2 a3 ps.length is.length ts.length ls.length c c' c2 c3 W)
  have B1 := toHid (fun (cs : Array Value) (t : TypeId) => Box.new w cs t)
  generalize vwB i ps is = r1 at *
  generalize barB ps.length is.length ts.length ls.length = r2 at *
  clear h
  cases r1 with
  | true =>
    go_enter Try.func13, Try.ntmps13
    go_wp2_with (first
      | (go_at_call 29; refine (H1.out _).mono ?_; rintro e w1 ⟨rfl, hb1⟩
         obtain ⟨b1, b2, b3⟩ := (B1.out _ _).below hb1)
      | (go_at_call 30; refine (H2.out _).mono ?_; rintro e w2 ⟨rfl, hb2⟩))
    go_ret
    exact ⟨by simp, (((Below.refl _ w).onA _).on hb1).on hb2⟩
  | false =>
    go_enter Try.func13, Try.ntmps13
    go_wp2_with (first
      | (go_at_call 29; refine (H1.out _).mono ?_; rintro e w1 ⟨rfl, hb1⟩
         obtain ⟨b1, b2, b3⟩ := (B1.out _ _).below hb1))
    go_ret
    exact ⟨by simp, ((Below.refl _ w).onA _).on hb1⟩

set_option maxHeartbeats 2000000 in
theorem nMay_up {lo hi : Nat} {w : World} {p q r s : Value} {ps : List Pe} {is : List Int} {ts : List It} {ls : List Te} (i : Int) (h : NdAt lo hi w p q r s ps is ts ls) (hh : hi ≤ w.heap.size) :
    Calls Try.prog 13 #[.agg #[.bool true, .int .i64 i, p, q, r, s]] w fun e w' => e = .returned (.bool (ndB ⟨true, i, ps, is, ts, ls⟩)) ∧ Below w.heap.size w w' := by
  rw [ndB_up]
  have H1 := toHid (fun o : Obj => vMay_any i (h.vw.alloc o) (Nat.le_trans hh (by simp)))
  have H2 := toHid (fun (o : Obj) (W : World) (hb : Below (w.alloc o).heap.size (w.alloc o) W) => sMay_any ((h.alloc o).below hb (Nat.le_trans hh (by simp))).ts (Nat.le_trans (Nat.le_trans hh (by simp)) hb.size))
  have H3 := toHid (fun (o : Obj) (W : World) (hb : Below (w.alloc o).heap.size (w.alloc o) W) => nLog_any ((h.alloc o).below hb (Nat.le_trans hh (by simp))).ls (Nat.le_trans (Nat.le_trans hh (by simp)) hb.size))
  obtain ⟨a, c, a', c', a2, c2, a3, c3, rfl, rfl, rfl, rfl⟩ := h.shape
  have B1 := toHid (fun (cs : Array Value) (t : TypeId) => Box.new w cs t)
  generalize vwB i ps is = r1 at *
  generalize stB ts = r2 at *
  generalize lgB ls = r3 at *
  clear h
  cases r1 with
  | true =>
    cases r2 with
    | true =>
      go_enter Try.func13, Try.ntmps13
      go_wp2_with (first
        | (go_at_call 29; refine (H1.out _).mono ?_; rintro e w1 ⟨rfl, hb1⟩
           obtain ⟨b1, b2, b3⟩ := (B1.out _ _).below hb1)
        | (go_at_call 31; refine (H2.out _ _ hb1).mono ?_; rintro e w2 ⟨rfl, hb2⟩
           replace hb2 := hb1.on hb2
           clear hb1 b1 b2 b3
           obtain ⟨b1, b2, b3⟩ := (B1.out _ _).below hb2)
        | (go_at_call 32; refine (H3.out _ _ hb2).mono ?_; rintro e w3 ⟨rfl, hb3⟩))
      go_ret
      exact ⟨by simp, (((Below.refl _ w).onA _).on hb2).on hb3⟩
    | false =>
      go_enter Try.func13, Try.ntmps13
      go_wp2_with (first
        | (go_at_call 29; refine (H1.out _).mono ?_; rintro e w1 ⟨rfl, hb1⟩
           obtain ⟨b1, b2, b3⟩ := (B1.out _ _).below hb1)
        | (go_at_call 31; refine (H2.out _ _ hb1).mono ?_; rintro e w2 ⟨rfl, hb2⟩
           replace hb2 := hb1.on hb2
           clear hb1 b1 b2 b3
           obtain ⟨b1, b2, b3⟩ := (B1.out _ _).below hb2))
      go_ret
      exact ⟨by simp, ((Below.refl _ w).onA _).on hb2⟩
  | false =>
    go_enter Try.func13, Try.ntmps13
    go_wp2_with (first
      | (go_at_call 29; refine (H1.out _).mono ?_; rintro e w1 ⟨rfl, hb1⟩
         obtain ⟨b1, b2, b3⟩ := (B1.out _ _).below hb1))
    go_ret
    exact ⟨by simp, ((Below.refl _ w).onA _).on hb1⟩

theorem nMay_any {lo hi : Nat} {w : World} {p q r s : Value} {ps : List Pe} {is : List Int} {ts : List It} {ls : List Te} (up : Bool) (i : Int) (h : NdAt lo hi w p q r s ps is ts ls) (hh : hi ≤ w.heap.size) :
    Calls Try.prog 13 #[.agg #[.bool up, .int .i64 i, p, q, r, s]] w fun e w' => e = .returned (.bool (ndB ⟨up, i, ps, is, ts, ls⟩)) ∧ Below w.heap.size w w' := by
  cases up with
  | false => exact nMay_down i h hh
  | true => exact nMay_up i h hh
theorem nMay_is {lo hi : Nat} {w : World} {p q r s : Value} {ps : List Pe} {is : List Int} {ts : List It} {ls : List Te} {up : Bool} {i : Int} {x : Bool} (h : NdAt lo hi w p q r s ps is ts ls) (hh : hi ≤ w.heap.size) (hx : ndB ⟨up, i, ps, is, ts, ls⟩ = x) :
    Calls Try.prog 13 #[.agg #[.bool up, .int .i64 i, p, q, r, s]] w fun e w' => e = .returned (.bool x) ∧ Below w.heap.size w w' := hx ▸ nMay_any up i h hh

/-! ### A new one -/
theorem wi_zero {acc : List Int} {x : Int} (h : wiE acc x = 0) : paB acc = true ∧ plB x = true ∧ (wiI acc x).length ≤ 16 := by
  unfold wiE wiOk at h
  cases h1 : paB acc with
  | false => rw [h1] at h; simp at h
  | true =>
    cases h2 : plB x with
    | false => rw [h1, h2] at h; simp at h
    | true =>
      refine ⟨rfl, rfl, ?_⟩
      by_cases h3 : (wiI acc x).length ≤ 16
      · exact h3
      · rw [h1, h2] at h
        simp [h3] at h
theorem nnF_pa (i : Int) : ∀ (xs acc a : List Int), paB acc = true → nnF i acc xs = some a → paB a = true
  | [], acc, a, h, e => by
    obtain rfl : acc = a := by simpa [nnF] using e
    exact h
  | x :: xs, acc, a, h, e => by
    rw [nnF] at e
    split at e
    · exact nnF_pa i xs acc a h e
    · split at e
      next h0 =>
        obtain ⟨h1, h2, h3⟩ := wi_zero h0
        rw [(wi_ok h1 h2 h3).1] at e
        exact nnF_pa i xs _ a (wi_pa h1 h2 h3) e
      · cases e
theorem wi_in {acc : List Int} {x : Int} (h : paB acc = true) (hx : x ∈ acc) : wiE acc x = 0 ∧ wiL acc x = acc := by
  have h1 := paB_iff.1 h
  have h2 : plB x = true := plsB_mem h1.2.1 x hx
  have h3 := wi_same h1.2.2 hx
  have h4 := wi_ok h h2 (by rw [h3]; exact h1.1)
  exact ⟨h4.2, h4.1.trans h3⟩
theorem nnF_one (i : Int) (acc : List Int) (x : Int) : nnF i acc [x] = if x = i then some acc else if wiE acc x = 0 then some (wiL acc x) else none := rfl

set_option maxHeartbeats 4000000 in
theorem nOthers_any {lo hi : Nat} {w : World} {v : Value} {ids : List Int} (hv : RowI lo hi w v ids) (hh : hi ≤ w.heap.size) (i : Int) {R : Option (List Int)} (hR : nnF i [] ids = R) :
    Calls Try.prog 23 #[.int .i64 i, v] w fun e w' => ∃ u E, e = .returned (.tuple #[u, .int .i64 E]) ∧ (E = 0 ↔ R.isSome = true) ∧
      RowI w.heap.size w'.heap.size w' u (R.getD []) ∧ Below w.heap.size w w' := by
  have V0 := toHid hv
  have hn := hv.max
  unfold maxLen at hn
  obtain ⟨p, c, rfl, -⟩ := hv.cap
  replace hR := toHid hR
  clear hv
  go_enter Try.func23, Try.ntmps23
  go_wp2
  go_loopw [6, 13] (fun s6 s13 wr => ∃ (k : Nat) (acc : List Int), k ≤ ids.length ∧ s13 = .int .i64 k ∧ nnF i [] (ids.take k) = some acc ∧ RowI w.heap.size wr.heap.size wr s6 acc ∧ Below w.heap.size w wr) (fun _ s13 _ => ids.length - (intOf s13).toNat)
  case atStart => exact ⟨0, [], Nat.zero_le _, rfl, rfl, RowI.nil0, Below.refl _ _⟩
  case round =>
    obtain ⟨k, acc, hk, rfl, hF, RA, hkr⟩ := hrel
    have hsz := hkr.size
    by_cases hlt : k < ids.length
    · obtain ⟨p3, c3, ev, -, -, hp3⟩ := V0.out.below hkr hh
      cases ev
      obtain ⟨bb, off, rfl, -, hbb, hc⟩ := hp3 (by intro e; rw [e] at hlt; cases hlt)
      have cx := (hc k hlt).1
      obtain ⟨x, hx⟩ : ∃ x, ids[k] = x := ⟨_, rfl⟩
      have cx2 : wr.cell? ⟨bb, off + k, none⟩ = some (.int .i64 x) := by rw [cx, ← hx]; simp [List.getD, List.getElem?_eq_getElem hlt]
      have hst := nnF_step hF hlt
      have hpa := nnF_pa i _ _ acc (by decide +kernel) hF
      rw [hx, nnF_one] at hst
      have hlt' : (k : Int) < (ids.length : Int) := by omega
      have hk0 : 0 ≤ (k : Int) := by omega
      have HW := toHid (qWith_any RA (Nat.le_refl _) x)
      have hC := containsI_any RA x
      obtain ⟨q, d, eq, -⟩ := RA.cap
      subst eq
      clear cx hc hp3 hx hF
      by_cases hxi : x = i
      · have hF2 : Hid (nnF i [] (ids.take (k + 1)) = some acc) := toHid (by rw [hst, if_pos hxi])
        have hxi2 : (x == i) = true := by simpa using hxi
        replace RA := toHid RA
        replace hkr := toHid hkr
        clear hst HW hC hpa
        subst hxi
        go_wp2
        go_roundw
        case rel => exact ⟨k + 1, acc, by omega, by go_num, hF2.out, RA.out, hkr.out⟩
        case measure => simp [intOf]; omega
      · have hxi2 : (x == i) = false := by simpa using hxi
        rw [if_neg hxi] at hst
        by_cases hin : x ∈ acc
        · have hF2 : Hid (nnF i [] (ids.take (k + 1)) = some acc) := toHid (by rw [hst, if_pos (wi_in hpa hin).1, (wi_in hpa hin).2])
          rw [decide_eq_true hin] at hC
          replace hC := toHid hC
          replace RA := toHid RA
          replace hkr := toHid hkr
          clear hst HW hin hpa
          go_wp2_with (go_at_call 41; refine hC.out.mono ?_; rintro e w5 ⟨rfl, hw5⟩; subst hw5)
          go_roundw
          case rel => exact ⟨k + 1, acc, by omega, by go_num, hF2.out, RA.out, hkr.out⟩
          case measure => simp [intOf]; omega
        · rw [decide_eq_false hin] at hC
          replace hC := toHid hC
          obtain ⟨E, hE⟩ : ∃ E, wiE acc x = E := ⟨_, rfl⟩
          rw [hE] at HW
          replace hkr := toHid hkr
          by_cases h0 : E = 0
          · have hF2 : Hid (nnF i [] (ids.take (k + 1)) = some (wiL acc x)) := toHid (by rw [hst, if_pos (hE.trans h0)])
            subst h0
            clear hst hE RA hin hpa
            go_wp2_with (first
              | (go_at_call 41; refine hC.out.mono ?_; rintro e w4 ⟨rfl, hw4⟩; subst w4)
              | (go_at_call 42; refine HW.out.mono ?_; rintro e w5 ⟨u, rfl, R5, h5⟩))
            have R6 := toHid (R5.wide hsz (Nat.le_refl _))
            have hk5 := toHid (hkr.out.on h5)
            clear R5 h5
            go_roundw
            case rel => exact ⟨k + 1, _, by omega, by go_num, hF2.out, R6.out, hk5.out⟩
            case measure => simp [intOf]; omega
          · have hRn : Hid (R = none) := toHid (hR.out.symm.trans (nnF_fail (k := k + 1) (by rw [hst, if_neg (by rw [hE]; exact h0)])))
            have h02 : (E == 0) = false := by simpa using h0
            clear hst hE RA hin hpa
            go_wp2_with (first
              | (go_at_call 41; refine hC.out.mono ?_; rintro e w4 ⟨rfl, hw4⟩; subst w4)
              | (go_at_call 42; refine HW.out.mono ?_; rintro e w5 ⟨u, rfl, R5, h5⟩))
            go_ret2
            rw [hRn.out]
            exact ⟨_, E, rfl, by simp [h0], RowI.nil0, hkr.out.on h5⟩
    · obtain rfl : k = ids.length := by omega
      rw [List.take_length] at hF
      have hRs : Hid (R = some acc) := toHid (hR.out.symm.trans hF)
      replace RA := toHid RA
      have hkr2 := toHid hkr
      clear hF hkr
      go_wp2
      go_ret2
      rw [hRs.out]
      exact ⟨_, 0, rfl, by simp, RA.out, hkr2.out⟩

set_option maxHeartbeats 2000000 in
theorem nNew_no (i : Int) (v : Value) (w : World) (hi1 : plB i = false) :
    Calls Try.prog 9 #[.int .i64 i, v] w fun e w' => e = .returned (.tuple #[.agg #[.bool false, .int .i64 0, .slice none 0 0, .slice none 0 0, .slice none 0 0, .slice none 0 0], .int .i64 1600]) ∧ Below w.heap.size w w' := by
  have BZ := Box.new w #[.bool false, .int .i64 0, .slice none 0 0, .slice none 0 0, .slice none 0 0, .slice none 0 0] 29
  have hB := toHid ((Below.refl _ w).onA (.cells #[.bool false, .int .i64 0, .slice none 0 0, .slice none 0 0, .slice none 0 0, .slice none 0 0] 29))
  have HP := fun W : World => nNo_any i W
  simp only [hi1] at HP
  go_enter Try.func9, Try.ntmps9
  go_upto_region 1 with (fail)
  generalize w.alloc (.cells #[.bool false, .int .i64 0, .slice none 0 0, .slice none 0 0, .slice none 0 0, .slice none 0 0] 29) = wA at BZ hB ⊢
  obtain ⟨b1, b2, b3⟩ := BZ
  go_wp2_with (go_at_call 22; refine (HP _).mono ?_; rintro e w' ⟨rfl, hw'⟩; subst w')
  have S5 := ((((((Only.refl w.heap.size (w.heap.size + 1) wA).setCell (o := 0) (Nat.le_refl _) (Nat.lt_succ_self _) (.bool false)).setCell (o := 1) (Nat.le_refl _) (Nat.lt_succ_self _) (.int .i64 0)).setCell (o := 2) (Nat.le_refl _) (Nat.lt_succ_self _) (.slice none 0 0)).setCell (o := 3) (Nat.le_refl _) (Nat.lt_succ_self _) (.slice none 0 0)).setCell (o := 4) (Nat.le_refl _) (Nat.lt_succ_self _) (.slice none 0 0)).setCell (o := 5) (Nat.le_refl _) (Nat.lt_succ_self _) (.slice none 0 0)
  refine bodyPost_ret (v := .tuple #[.agg #[.bool false, .int .i64 0, .slice none 0 0, .slice none 0 0, .slice none 0 0, .slice none 0 0], .int .i64 1600]) (by simp [results, Try.results9, go_sem, b2]) rfl ?_
  exact ⟨rfl, hB.out.trans S5.below⟩

set_option maxHeartbeats 4000000 in
theorem nNew_place {lo hi : Nat} {w : World} {v : Value} {ids : List Int} (hv : RowI lo hi w v ids) (hh : hi ≤ w.heap.size) (i : Int) (hi1 : plB i = true) {R : Option (List Int)} (hR : nnF i [] ids = R) :
    Calls Try.prog 9 #[.int .i64 i, v] w fun e w' => ∃ u, e = .returned (.tuple #[.agg #[.bool R.isSome, .int .i64 (nnI i R), .slice none 0 0, u, .slice none 0 0, .slice none 0 0], .int .i64 (nnE R)]) ∧
      RowI w.heap.size w'.heap.size w' u (R.getD []) ∧ Below w.heap.size w w' := by
  have BZ := toHid (Box.new w #[.bool false, .int .i64 0, .slice none 0 0, .slice none 0 0, .slice none 0 0, .slice none 0 0] 29)
  have hB := toHid ((Below.refl _ w).onA (.cells #[.bool false, .int .i64 0, .slice none 0 0, .slice none 0 0, .slice none 0 0, .slice none 0 0] 29))
  have V0 := toHid (hv.alloc (.cells #[.bool false, .int .i64 0, .slice none 0 0, .slice none 0 0, .slice none 0 0, .slice none 0 0] 29))
  have hzA : (w.alloc (.cells #[.bool false, .int .i64 0, .slice none 0 0, .slice none 0 0, .slice none 0 0, .slice none 0 0] 29)).heap.size = w.heap.size + 1 := by simp
  have HP := fun W : World => nNo_any i W
  simp only [hi1] at HP
  obtain ⟨p, c, rfl, -⟩ := hv.cap
  clear hv
  go_enter Try.func9, Try.ntmps9
  go_upto_region 3 with (first
    | (go_at_call 22; refine (HP _).mono ?_; rintro e w' ⟨rfl, hw'⟩; subst w'))
  generalize w.alloc (.cells #[.bool false, .int .i64 0, .slice none 0 0, .slice none 0 0, .slice none 0 0, .slice none 0 0] 29) = wA at BZ hB V0 hzA ⊢
  have hzw : w.heap.size < wA.heap.size := by omega
  have hhA : hi ≤ wA.heap.size := by omega
  clear hzA HP
  have HO := toHid (nOthers_any V0.out hhA i hR)
  cases R with
  | none =>
    go_wp2_with (go_at_call 23; refine HO.out.mono ?_; rintro e w5 ⟨u, E, rfl, hE, R5, h5⟩
                 have hE2 : (E == 0) = false := by simpa using hE
                 clear hE
                 have B5 := BZ.out.below h5
                 obtain ⟨b1, b2, b3⟩ := id B5)
    have S5 := ((((((Only.refl w.heap.size (w.heap.size + 1) w5).setCell (o := 0) (Nat.le_refl _) (Nat.lt_succ_self _) (.bool false)).setCell (o := 1) (Nat.le_refl _) (Nat.lt_succ_self _) (.int .i64 0)).setCell (o := 2) (Nat.le_refl _) (Nat.lt_succ_self _) (.slice none 0 0)).setCell (o := 3) (Nat.le_refl _) (Nat.lt_succ_self _) (.slice none 0 0)).setCell (o := 4) (Nat.le_refl _) (Nat.lt_succ_self _) (.slice none 0 0)).setCell (o := 5) (Nat.le_refl _) (Nat.lt_succ_self _) (.slice none 0 0)
    refine bodyPost_ret (v := .tuple #[.agg #[.bool false, .int .i64 0, .slice none 0 0, .slice none 0 0, .slice none 0 0, .slice none 0 0], .int .i64 1600]) (by simp [results, Try.results9, go_sem, b2]) rfl ?_
    exact ⟨_, rfl, RowI.nil0, (hB.out.on h5).trans S5.below⟩
  | some acc =>
    go_wp2_with (go_at_call 23; refine HO.out.mono ?_; rintro e w5 ⟨u, E, rfl, hE, R5, h5⟩
                 obtain rfl : E = 0 := hE.2 rfl
                 clear hE
                 have B5 := BZ.out.below h5
                 obtain ⟨q, d, eq, -⟩ := R5.cap
                 subst eq
                 obtain ⟨b1, b2, b3⟩ := id B5)
    have S5 := ((((((Only.refl w.heap.size (w.heap.size + 1) w5).setCell (o := 0) (Nat.le_refl _) (Nat.lt_succ_self _) (.bool true)).setCell (o := 1) (Nat.le_refl _) (Nat.lt_succ_self _) (.int .i64 i)).setCell (o := 2) (Nat.le_refl _) (Nat.lt_succ_self _) (.slice none 0 0)).setCell (o := 3) (Nat.le_refl _) (Nat.lt_succ_self _) (.slice q acc.length d)).setCell (o := 4) (Nat.le_refl _) (Nat.lt_succ_self _) (.slice none 0 0)).setCell (o := 5) (Nat.le_refl _) (Nat.lt_succ_self _) (.slice none 0 0)
    have hz5 := S5.size
    refine bodyPost_ret (v := .tuple #[.agg #[.bool true, .int .i64 i, .slice none 0 0, .slice q acc.length d, .slice none 0 0, .slice none 0 0], .int .i64 0]) (by simp [results, Try.results9, go_sem, b2]) rfl ?_
    exact ⟨_, rfl, (R5.only S5 (.inr (by omega))).wide (by omega) (by omega), (hB.out.on h5).trans S5.below⟩

theorem nNew_any {lo hi : Nat} {w : World} {v : Value} {ids : List Int} (hv : RowI lo hi w v ids) (hh : hi ≤ w.heap.size) (i : Int) :
    Calls Try.prog 9 #[.int .i64 i, v] w fun e w' => ∃ u, e = .returned (.tuple #[.agg #[.bool (nnR i ids).isSome, .int .i64 (nnI i (nnR i ids)), .slice none 0 0, u, .slice none 0 0, .slice none 0 0], .int .i64 (nnE (nnR i ids))]) ∧
      RowI w.heap.size w'.heap.size w' u ((nnR i ids).getD []) ∧ Below w.heap.size w w' := by
  cases h : plB i with
  | false =>
    have e : nnR i ids = none := by simp [nnR, h]
    rw [e]
    exact (nNew_no i v w h).mono fun _ _ ⟨he, hb⟩ => ⟨_, he, RowI.nil0, hb⟩
  | true =>
    have e : nnR i ids = nnF i [] ids := by simp [nnR, h]
    rw [e]
    exact nNew_place hv hh i h rfl

end Go.Proofs.Ytgcdbkhicpfklaa
