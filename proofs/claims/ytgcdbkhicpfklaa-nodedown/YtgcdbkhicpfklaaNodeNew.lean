
/-
  A new node: plain, and the document's own answer.
-/
import Derived.Test.YtgcdbkhicpfklaaNodeMay
namespace Go.Proofs.Ytgcdbkhicpfklaa
open Go.ChangeShapes Go.WideShapes Go.ChangeAt Go.RowKit

/-- Whom a new node has lost: one put behind the other, but itself. -/
def nnF (i : Int) : List Int → List Int → Option (List Int)
  | acc, [] => some acc
  | acc, x :: xs => if x = i then nnF i acc xs else if wiE acc x = 0 then nnF i (wiL acc x) xs else none
theorem nnF_app (i : Int) : ∀ (xs acc ys : List Int), nnF i acc (xs ++ ys) = (nnF i acc xs).bind (fun a => nnF i a ys)
  | [], acc, ys => rfl
  | x :: xs, acc, ys => by
    rw [List.cons_append, nnF, nnF]
    split
    · exact nnF_app i xs acc ys
    · split
      · exact nnF_app i xs _ ys
      · rfl
theorem nnF_step {i : Int} {xs : List Int} {k : Nat} {acc : List Int} (h : nnF i [] (xs.take k) = some acc) (hk : k < xs.length) : nnF i [] (xs.take (k + 1)) = nnF i acc [xs[k]] := by
  rw [List.take_add_one, List.getElem?_eq_getElem hk, nnF_app, h]
  rfl
theorem nnF_fail {i : Int} {xs : List Int} {k : Nat} (h : nnF i [] (xs.take k) = none) : nnF i [] xs = none := by
  rw [← List.take_append_drop k xs, nnF_app, h]
  rfl

def nnI (i : Int) (R : Option (List Int)) : Int := if R.isSome = true then i else 0
def nnE (R : Option (List Int)) : Int := if R.isSome = true then 0 else 1600

set_option maxHeartbeats 4000000 in
theorem rNewNode_place {lo hi : Nat} {w : World} {v : Value} {ids : List Int} (hv : RowI lo hi w v ids) (hh : hi ≤ w.heap.size) (i : Int) (hi1 : plB i = true) {R : Option (List Int)} (hR : nnF i [] ids = R) :
    Calls Try.prog 10 #[.int .i64 i, v] w fun e w' => ∃ u, e = .returned (.tuple #[.agg #[.bool R.isSome, .int .i64 (nnI i R), .slice none 0 0, u, .slice none 0 0, .slice none 0 0], .int .i64 (nnE R)]) ∧
      RowI w.heap.size w'.heap.size w' u (R.getD []) ∧ Below w.heap.size w w' := by
  have BZ := toHid (Box.new w #[.bool false, .int .i64 0, .slice none 0 0, .slice none 0 0, .slice none 0 0, .slice none 0 0] 29)
  have hB := toHid ((Below.refl _ w).onA (.cells #[.bool false, .int .i64 0, .slice none 0 0, .slice none 0 0, .slice none 0 0, .slice none 0 0] 29))
  have V0 := toHid (hv.alloc (.cells #[.bool false, .int .i64 0, .slice none 0 0, .slice none 0 0, .slice none 0 0, .slice none 0 0] 29))
  have hzA : (w.alloc (.cells #[.bool false, .int .i64 0, .slice none 0 0, .slice none 0 0, .slice none 0 0, .slice none 0 0] 29)).heap.size = w.heap.size + 1 := by simp
  have HP := fun W : World => rPlaceMay_any i W
  simp only [hi1] at HP
  have hn := hv.max
  unfold maxLen at hn
  obtain ⟨p, c, rfl, -⟩ := hv.cap
  replace hR := toHid hR
  clear hv
  go_enter Try.func10, Try.ntmps10
  go_upto_region 3 with (first
    | (go_at_call 24; refine (HP _).mono ?_; rintro e w' ⟨rfl, hw'⟩; subst w'))
  generalize w.alloc (.cells #[.bool false, .int .i64 0, .slice none 0 0, .slice none 0 0, .slice none 0 0, .slice none 0 0] 29) = wA at BZ hB V0 hzA ⊢
  have hzw : w.heap.size < wA.heap.size := by omega
  have hhA : hi ≤ wA.heap.size := by omega
  clear hzA HP
  go_wp2
  go_loopw [6, 7] (fun s6 s7 wr => ∃ (k : Nat) (acc : List Int), k ≤ ids.length ∧ s7 = .int .i64 k ∧ nnF i [] (ids.take k) = some acc ∧ RowI wA.heap.size wr.heap.size wr s6 acc ∧ Below wA.heap.size wA wr) (fun _ s7 _ => ids.length - (intOf s7).toNat)
  case atStart => exact ⟨0, [], Nat.zero_le _, rfl, rfl, RowI.nil0, Below.refl _ _⟩
  case round =>
    obtain ⟨k, acc, hk, rfl, hF, RA, hkr⟩ := hrel
    have hsz := hkr.size
    by_cases hlt : k < ids.length
    · obtain ⟨p3, c3, ev, -, -, hp3⟩ := V0.out.below hkr hhA
      cases ev
      obtain ⟨bb, off, rfl, -, hbb, hc⟩ := hp3 (by intro e; rw [e] at hlt; cases hlt)
      have cx := (hc k hlt).1
      obtain ⟨x, hx⟩ : ∃ x, ids[k] = x := ⟨_, rfl⟩
      have cx2 : wr.cell? ⟨bb, off + k, none⟩ = some (.int .i64 x) := by rw [cx, ← hx]; simp [List.getD, List.getElem?_eq_getElem hlt]
      have hst := nnF_step hF hlt
      rw [hx] at hst
      have hlt' : (k : Int) < (ids.length : Int) := by omega
      have hk0 : 0 ≤ (k : Int) := by omega
      have HW := toHid (rWith_any RA (Nat.le_refl _) x)
      obtain ⟨q, d, eq, -⟩ := RA.cap
      subst eq
      clear cx hc hp3 hx hF
      by_cases hxi : x = i
      · have hF2 : Hid (nnF i [] (ids.take (k + 1)) = some acc) := toHid (by rw [hst, nnF, if_pos hxi]; rfl)
        have hxi2 : (x == i) = true := by simpa using hxi
        replace RA := toHid RA
        replace hkr := toHid hkr
        clear hst HW
        subst hxi
        go_wp2
        go_roundw
        case rel => exact ⟨k + 1, acc, by omega, by go_num, hF2.out, RA.out, hkr.out⟩
        case measure => simp [intOf]; omega
      · have hxi2 : (x == i) = false := by simpa using hxi
        obtain ⟨E, hE⟩ : ∃ E, wiE acc x = E := ⟨_, rfl⟩
        rw [hE] at HW
        replace hkr := toHid hkr
        by_cases h0 : E = 0
        · have hF2 : Hid (nnF i [] (ids.take (k + 1)) = some (wiL acc x)) := toHid (by rw [hst, nnF, if_neg hxi, if_pos (hE.trans h0)]; rfl)
          subst h0
          clear hst hE RA
          go_wp2_with (go_at_call 25; refine HW.out.mono ?_; rintro e w5 ⟨u, rfl, R5, h5⟩)
          have R6 := toHid (R5.wide hsz (Nat.le_refl _))
          have hk5 := toHid (hkr.out.on h5)
          clear R5 h5
          go_roundw
          case rel => exact ⟨k + 1, _, by omega, by go_num, hF2.out, R6.out, hk5.out⟩
          case measure => simp [intOf]; omega
        · have hRn : Hid (R = none) := toHid (hR.out.symm.trans (nnF_fail (k := k + 1) (by rw [hst, nnF, if_neg hxi, if_neg (by rw [hE]; exact h0)])))
          have h02 : (E == 0) = false := by simpa using h0
          clear hst hE RA
          go_wp2_with (go_at_call 25; refine HW.out.mono ?_; rintro e w5 ⟨u, rfl, R5, h5⟩
                       have hk5 := hkr.out.on h5
                       have B5 := BZ.out.below hk5
                       obtain ⟨b1, b2, b3⟩ := id B5)
          have S5 := ((((((Only.refl w.heap.size (w.heap.size + 1) w5).setCell (o := 0) (Nat.le_refl _) (Nat.lt_succ_self _) (.bool false)).setCell (o := 1) (Nat.le_refl _) (Nat.lt_succ_self _) (.int .i64 0)).setCell (o := 2) (Nat.le_refl _) (Nat.lt_succ_self _) (.slice none 0 0)).setCell (o := 3) (Nat.le_refl _) (Nat.lt_succ_self _) (.slice none 0 0)).setCell (o := 4) (Nat.le_refl _) (Nat.lt_succ_self _) (.slice none 0 0)).setCell (o := 5) (Nat.le_refl _) (Nat.lt_succ_self _) (.slice none 0 0)
          refine bodyPost_ret (v := .tuple #[.agg #[.bool false, .int .i64 0, .slice none 0 0, .slice none 0 0, .slice none 0 0, .slice none 0 0], .int .i64 1600]) (by simp [results, Try.results10, go_sem, b2]) rfl ?_
          rw [hRn.out]
          exact ⟨_, rfl, RowI.nil0, (hB.out.on hk5).trans S5.below⟩
    · obtain rfl : k = ids.length := by omega
      rw [List.take_length] at hF
      have hRs : Hid (R = some acc) := toHid (hR.out.symm.trans hF)
      obtain ⟨q, d, eq, -⟩ := RA.cap
      subst eq
      have RA2 := toHid RA
      obtain ⟨b1, b2, b3⟩ := BZ.out.below hkr
      have hkr2 := toHid hkr
      clear hF RA hkr
      go_wp2
      have S5 := ((((((Only.refl w.heap.size (w.heap.size + 1) wr).setCell (o := 0) (Nat.le_refl _) (Nat.lt_succ_self _) (.bool true)).setCell (o := 1) (Nat.le_refl _) (Nat.lt_succ_self _) (.int .i64 i)).setCell (o := 2) (Nat.le_refl _) (Nat.lt_succ_self _) (.slice none 0 0)).setCell (o := 3) (Nat.le_refl _) (Nat.lt_succ_self _) (.slice q acc.length d)).setCell (o := 4) (Nat.le_refl _) (Nat.lt_succ_self _) (.slice none 0 0)).setCell (o := 5) (Nat.le_refl _) (Nat.lt_succ_self _) (.slice none 0 0)
      have hz5 := S5.size
      refine bodyPost_ret (v := .tuple #[.agg #[.bool true, .int .i64 i, .slice none 0 0, .slice q acc.length d, .slice none 0 0, .slice none 0 0], .int .i64 0]) (by simp [results, Try.results10, go_sem, b2]) rfl ?_
      rw [hRs.out]
      exact ⟨_, rfl, (RA2.out.only S5 (.inr (by omega))).wide (by omega) (by omega), (hB.out.on hkr2.out).trans S5.below⟩

def nnR (i : Int) (ids : List Int) : Option (List Int) := if plB i = true then nnF i [] ids else none

set_option maxHeartbeats 2000000 in
theorem rNewNode_no (i : Int) (v : Value) (w : World) (hi1 : plB i = false) :
    Calls Try.prog 10 #[.int .i64 i, v] w fun e w' => e = .returned (.tuple #[.agg #[.bool false, .int .i64 0, .slice none 0 0, .slice none 0 0, .slice none 0 0, .slice none 0 0], .int .i64 1600]) ∧ Below w.heap.size w w' := by
  have BZ := Box.new w #[.bool false, .int .i64 0, .slice none 0 0, .slice none 0 0, .slice none 0 0, .slice none 0 0] 29
  have hB := toHid ((Below.refl _ w).onA (.cells #[.bool false, .int .i64 0, .slice none 0 0, .slice none 0 0, .slice none 0 0, .slice none 0 0] 29))
  have HP := fun W : World => rPlaceMay_any i W
  simp only [hi1] at HP
  go_enter Try.func10, Try.ntmps10
  go_upto_region 1 with (fail)
  generalize w.alloc (.cells #[.bool false, .int .i64 0, .slice none 0 0, .slice none 0 0, .slice none 0 0, .slice none 0 0] 29) = wA at BZ hB ⊢
  obtain ⟨b1, b2, b3⟩ := BZ
  go_wp2_with (go_at_call 24; refine (HP _).mono ?_; rintro e w' ⟨rfl, hw'⟩; subst w')
  have S5 := ((((((Only.refl w.heap.size (w.heap.size + 1) wA).setCell (o := 0) (Nat.le_refl _) (Nat.lt_succ_self _) (.bool false)).setCell (o := 1) (Nat.le_refl _) (Nat.lt_succ_self _) (.int .i64 0)).setCell (o := 2) (Nat.le_refl _) (Nat.lt_succ_self _) (.slice none 0 0)).setCell (o := 3) (Nat.le_refl _) (Nat.lt_succ_self _) (.slice none 0 0)).setCell (o := 4) (Nat.le_refl _) (Nat.lt_succ_self _) (.slice none 0 0)).setCell (o := 5) (Nat.le_refl _) (Nat.lt_succ_self _) (.slice none 0 0)
  refine bodyPost_ret (v := .tuple #[.agg #[.bool false, .int .i64 0, .slice none 0 0, .slice none 0 0, .slice none 0 0, .slice none 0 0], .int .i64 1600]) (by simp [results, Try.results10, go_sem, b2]) rfl ?_
  exact ⟨rfl, hB.out.trans S5.below⟩

theorem rNewNode_any {lo hi : Nat} {w : World} {v : Value} {ids : List Int} (hv : RowI lo hi w v ids) (hh : hi ≤ w.heap.size) (i : Int) :
    Calls Try.prog 10 #[.int .i64 i, v] w fun e w' => ∃ u, e = .returned (.tuple #[.agg #[.bool (nnR i ids).isSome, .int .i64 (nnI i (nnR i ids)), .slice none 0 0, u, .slice none 0 0, .slice none 0 0], .int .i64 (nnE (nnR i ids))]) ∧
      RowI w.heap.size w'.heap.size w' u ((nnR i ids).getD []) ∧ Below w.heap.size w w' := by
  cases h : plB i with
  | false =>
    have e : nnR i ids = none := by simp [nnR, h]
    rw [e]
    exact (rNewNode_no i v w h).mono fun _ _ ⟨he, hb⟩ => ⟨_, he, RowI.nil0, hb⟩
  | true =>
    have e : nnR i ids = nnF i [] ids := by simp [nnR, h]
    rw [e]
    exact rNewNode_place hv hh i h rfl

end Go.Proofs.Ytgcdbkhicpfklaa
