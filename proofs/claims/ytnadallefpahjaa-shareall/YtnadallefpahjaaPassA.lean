
/-
  Contracts of package passive's small functions (no place; do they rise; may they be; where a place stands), at every list of ints: what they return, and that memory is untouched.
-/
import Derived.Test.YtnadallefpahjaaPassMath
import Derived.Test.YtnadallefpahjaaContLays
import Derived.Test.YtnadallefpahjaaIntRow
namespace Go.Proofs.Ytnadallefpahjaa
open Go.ChangeShapes Go.WideShapes Go.ChangeAt Go.RowKit Go.Shelf Go.Lib

theorem qNo_any (x : Int) (w : World) :
    Calls Try.prog 73 #[.int .i64 x] w fun e w' => e = .returned (.bool (!plB x)) ∧ w' = w := by
  rcases Bool.eq_false_or_eq_true (plB x) with h | h
  · rw [h]
    go_enter Try.func73, Try.ntmps73
    go_wp2_with (go_at_call 83; refine (distance_yes _ _ _ h h).mono ?_; rintro e w' ⟨rfl, hw'⟩; subst w')
    go_ret
    exact ⟨rfl, rfl⟩
  · rw [h]
    go_enter Try.func73, Try.ntmps73
    go_wp2_with (go_at_call 83; refine (distance_no _ _ _ (.inl h)).mono ?_; rintro e w' ⟨rfl, hw'⟩; subst w')
    go_ret
    exact ⟨rfl, rfl⟩

theorem qContains_any {lo hi : Nat} {w : World} {v : Value} {xs : List Int} (hv : RowI lo hi w v xs) :
    Calls Try.prog 63 #[v, .func (.func 73) #[] #[]] w fun e w' => e = .returned (.bool (!plsB xs)) ∧ ∃ q, w' = w.drewN q := by
  have hmax := hv.max
  unfold maxLen at hmax
  obtain ⟨p, c, rfl, hl, hc, hpx⟩ := hv
  by_cases h0 : xs = []
  · subst h0
    exact (AnyE.slices_ContainsFunc_empty containsL p c _ w).mono fun e w' ⟨he, hw⟩ => ⟨he, 0, hw⟩
  · obtain ⟨b, off, rfl, _, _, h3⟩ := hpx h0
    have eg : ∀ args w, (callFunc 73 args).run Try.prog w = .ok (.enter 73 args) w := enters_of Try.func73 (by kernel_rfl) rfl
    have hp : PredAt Try.prog 73 #[] (Value.int .i64) (fun x => !plB x) w := fun W x _ => by
      unfold FnGives
      exact (qNo_any x W).mono fun e w' ⟨he, hw⟩ => ⟨he, 0, hw⟩
    have h := AnyE.slices_ContainsFunc containsL (Value.int .i64) (fun x => !plB x) 73 #[] eg b off xs.length c xs w hp (Nat.le_refl _) (by omega)
      (fun j hj => by rw [(h3 j hj).1, getElem!_pos xs j hj]; simp [List.getD, List.getElem?_eq_getElem hj])
    rw [List.take_length, any_not_plB] at h
    exact h

set_option maxHeartbeats 400000 in
theorem qRis_core (p : Option Addr) (n c : Nat) (g : Nat → Int) (w : World) (hn : n ≤ 9223372036854775807)
    (hp : 0 < n → ∃ b off, p = some ⟨b, off, none⟩ ∧ ∀ j, j < n → w.cell? ⟨b, off + j, none⟩ = some (.int .i64 (g j))) (r : Bool) (hr : r = true ↔ ∀ j, j + 1 < n → g j < g (j + 1)) :
    Calls Try.prog 74 #[.slice p n c] w fun e w' => e = .returned (.bool r) ∧ ∃ q, w' = w.drewN q := by
  go_enter Try.func74, Try.ntmps74
  go_wp2
  go_loopw [3] (fun i wr => ∃ k q : Nat, (k = 0 ∨ k + 1 ≤ n) ∧ i = .int .i64 ((k : Int) + 1) ∧ Hid (∀ j, j < k → g j < g (j + 1)) ∧ wr = w.drewN q) (fun i _ => n + 1 - (intOf i).toNat)
  case atStart => exact ⟨0, 0, .inl rfl, rfl, toHid (fun j hj => absurd hj (Nat.not_lt_zero _)), rfl⟩
  case round =>
    obtain ⟨k, q, hk, rfl, hj, rfl⟩ := hrel
    by_cases hlt : k + 1 < n
    · obtain ⟨b, off, rfl, h1⟩ := hp (by omega)
      have c1 : w.cell? ⟨b, off + k, none⟩ = some (.int .i64 (g k)) := h1 k (by omega)
      have c2 : w.cell? ⟨b, off + (k + 1), none⟩ = some (.int .i64 (g (k + 1))) := h1 (k + 1) hlt
      have hlt' : (k : Int) + 1 < (n : Int) := by omega
      have hlt2 : (k : Int) < (n : Int) := by omega
      clear h1 hp
      by_cases he : g k < g (k + 1)
      · have hj' : Hid (∀ j, j < k + 1 → g j < g (j + 1)) := toHid fun j hjk => by
          by_cases e : j = k
          · rw [e]; exact he
          · exact hj.out j (by omega)
        have he2 : ¬ g (k + 1) ≤ g k := by omega
        clear hj hr
        generalize g k = x at *
        generalize g (k + 1) = y at *
        go_wp2
        go_quiet (fail)
        go_wp2
        go_roundw
        case rel => exact ⟨k + 1, q + nq, .inr (by omega), by go_num, hj', rfl⟩
        case measure => simp [intOf]; omega
      · have hrf : r = false := by
          cases r with
          | false => rfl
          | true => exact absurd (hr.1 rfl k hlt) he
        subst hrf
        have he2 : g (k + 1) ≤ g k := by omega
        clear hj hr
        generalize g k = x at *
        generalize g (k + 1) = y at *
        go_wp2
        go_quiet (fail)
        go_wp2
        go_ret
        exact ⟨rfl, q + nq, by rw [World.drewN_drewN]⟩
    · have hrt : r = true := hr.2 fun j hjn => hj.out j (by omega)
      subst hrt
      have hlt' : ¬ (k : Int) + 1 < (n : Int) := by omega
      go_wp2
      go_ret
      exact ⟨rfl, q, rfl⟩

theorem qRis_any {lo hi : Nat} {w : World} {v : Value} {xs : List Int} (hx : RowI lo hi w v xs) :
    Calls Try.prog 74 #[v] w fun e w' => e = .returned (.bool (decide (Up xs))) ∧ ∃ q, w' = w.drewN q := by
  obtain ⟨p, c, rfl, hl, hc, hpx⟩ := hx
  unfold maxLen at hc
  refine qRis_core p xs.length c (fun j => xs.getD j 0) w (by omega) (fun h0 => ?_) _ ?_
  · obtain ⟨b, off, e, _, _, h3⟩ := hpx (by intro e; simp [e] at h0)
    exact ⟨b, off, e, fun j hj => (h3 j hj).1⟩
  · rw [decide_eq_true_iff, up_at]

set_option maxHeartbeats 400000 in
theorem qMay_any {lo hi : Nat} {w : World} {v : Value} {xs : List Int} (hx : RowI lo hi w v xs) :
    Calls Try.prog 59 #[v] w fun e w' => e = .returned (.bool (paB xs)) ∧ ∃ q, w' = w.drewN q := by
  have H1 := qContains_any hx
  have H2 := fun q => qRis_any (hx.drewN q)
  obtain ⟨p, c, rfl, hl, hc, -⟩ := hx
  by_cases hl : xs.length ≤ 16
  · have hl1 : (xs.length : Int) ≤ 16 := by omega
    have e : paB xs = (plsB xs && decide (Up xs)) := by simp [paB, hl]
    rw [e]
    clear e
    generalize decide (Up xs) = r2 at *
    generalize plsB xs = r1 at *
    cases r1 with
    | false =>
      go_enter Try.func59, Try.ntmps59
      go_wp2_with (first
        | (go_at_call 63; refine H1.mono ?_; rintro e w' ⟨rfl, q, hw'⟩; subst w'))
      go_ret
      exact ⟨rfl, q, rfl⟩
    | true =>
      go_enter Try.func59, Try.ntmps59
      go_wp2_with (first
        | (go_at_call 63; refine H1.mono ?_; rintro e w' ⟨rfl, q, hw'⟩; subst w')
        | (go_at_call 74; refine (H2 _).mono ?_; rintro e w' ⟨rfl, q2, hw'⟩; subst w'))
      go_ret
      exact ⟨rfl, q + q2, rfl⟩
  · have e : paB xs = false := by simp [paB, hl]
    rw [e]
    clear e H1 H2
    have hl1 : ¬ (xs.length : Int) ≤ 16 := by omega
    have hd : decide ((xs.length : Int) ≤ 16) = false := decide_eq_false hl1
    go_enter Try.func59, Try.ntmps59
    go_wp2
    go_ret
    exact ⟨rfl, 0, rfl⟩
end Go.Proofs.Ytnadallefpahjaa
