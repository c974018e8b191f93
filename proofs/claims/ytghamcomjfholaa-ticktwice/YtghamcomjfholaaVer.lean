
/-
  Plain facts on numbers that wrap round.
-/
import Derived.Test.YtghamcomjfholaaOnly
import Derived.Test.YtghamcomjfholaaRingRef
import Derived.Laws.BitsLemmas
import Derived.Test.YtghamcomjfholaaIntRow
import Derived.Test.YtghamcomjfholaaPassMath
import Derived.Test.YtghamcomjfholaaOld
namespace Go.Proofs.Ytghamcomjfholaa
open Go.ChangeShapes Go.WideShapes Go.ChangeAt Go.RowKit

theorem rem_u64 (a : Int) (N r : Nat) (h : r = (a % 18446744073709551616).toNat % N) : (IntKind.u64.wrap a).tmod (N : Int) = (r : Int) := by
  have e : IntKind.u64.wrap a = a % 18446744073709551616 := by simp [IntKind.wrap, IntKind.bits, IntKind.signed]
  obtain ⟨X, hX⟩ : ∃ X : Nat, a % 18446744073709551616 = (X : Int) := ⟨(a % 18446744073709551616).toNat, by omega⟩
  rw [e, h, hX, Int.tmod_eq_emod_of_nonneg (by omega)]
  simp
theorem w64_in (n : Int) (h : 0 ≤ n ∧ n ≤ 9223372036854775807) : wrap64 n = n := by unfold wrap64; omega
end Go.Proofs.Ytghamcomjfholaa

namespace Go.Proofs.Ytghamcomjfholaa
open Go.ChangeShapes Go.WideShapes Go.ChangeAt Go.RowKit

set_option maxHeartbeats 400000 in
theorem has_any {lo hi : Nat} {w : World} {v : Value} {xs : List Int} (hv : RowI lo hi w v xs) (x : Int) :
    Calls Try.prog 46 #[v, .int .i64 x] w fun e w' => e = .returned (.bool (decide (x ∈ xs))) ∧ w' = w := by
  obtain ⟨p, c, rfl, hl, hc, hpx⟩ := hv
  unfold maxLen at hc
  have hn : xs.length ≤ 9223372036854775807 := by omega
  have hp : 0 < xs.length → ∃ b off, p = some ⟨b, off, none⟩ ∧ ∀ j, j < xs.length → w.cell? ⟨b, off + j, none⟩ = some (.int .i64 (xs.getD j 0)) := by
    intro h0
    obtain ⟨b, off, e, h1, _, h3⟩ := hpx (by intro e; simp [e] at h0)
    exact ⟨b, off, e, fun j hj => (h3 j hj).1⟩
  have hin : (decide (x ∈ xs)) = true ↔ ∃ j, j < xs.length ∧ xs.getD j 0 = x := by
    rw [decide_eq_true_iff, List.mem_iff_getElem]
    constructor
    · rintro ⟨j, hj, e⟩; exact ⟨j, hj, by simp [List.getD, List.getElem?_eq_getElem hj, e]⟩
    · rintro ⟨j, hj, e⟩; exact ⟨j, hj, by simpa [List.getD, List.getElem?_eq_getElem hj] using e⟩
  generalize decide (x ∈ xs) = r at *
  obtain ⟨g, hg⟩ : ∃ g : Nat → Int, ∀ j, xs.getD j 0 = g j := ⟨_, fun _ => rfl⟩
  simp only [hg] at hp hin
  clear hpx hg hl hc
  generalize xs.length = n at *
  go_enter Try.func46, Try.ntmps46
  go_wp2
  go_loop [5] (fun i => ∃ k : Nat, k ≤ n ∧ i = .int .i64 k ∧ (∀ j, j < k → g j ≠ x)) (fun i => n - (intOf i).toNat)
  case atStart => exact ⟨0, Nat.zero_le _, rfl, fun j hj => absurd hj (Nat.not_lt_zero _)⟩
  case round =>
    obtain ⟨k, hk, rfl, hj⟩ := hrel
    by_cases hlt : k < n
    · obtain ⟨b, off, rfl, h1⟩ := hp (by omega)
      have c1 : w.cell? ⟨b, off + k, none⟩ = some (.int .i64 (g k)) := h1 k hlt
      have hlt' : (k : Int) < (n : Int) := by omega
      clear h1 hp
      by_cases he : g k = x
      · have hrt : r = true := hin.2 ⟨k, hlt, he⟩
        subst hrt
        clear hin hj
        go_wp2
        go_ret
        exact ⟨rfl, rfl⟩
      · have hj' : ∀ j, j < k + 1 → g j ≠ x := fun j hjk => by
          by_cases e : j = k
          · rw [e]; exact he
          · exact hj j (by omega)
        clear hin hj
        go_wp2
        go_round
        case rel => exact ⟨k + 1, by omega, by go_num, hj'⟩
        case measure => simp [intOf]; omega
    · have hrf : r = false := by
        cases hr : r with
        | false => rfl
        | true =>
          obtain ⟨j, h1, h2⟩ := hin.1 hr
          exact absurd h2 (hj j (by omega))
      subst hrf
      clear hin hj hp
      go_wp2
      go_ret
      exact ⟨rfl, rfl⟩
set_option maxHeartbeats 400000 in
theorem placesMay_any {lo hi : Nat} {w : World} {v : Value} {xs : List Int} (hv : RowI lo hi w v xs) :
    Calls Try.prog 26 #[v] w fun e w' => e = .returned (.bool (plsB xs)) ∧ w' = w := by
  obtain ⟨p, c, rfl, hl, hc, hpx⟩ := hv
  unfold maxLen at hc
  have hn : xs.length ≤ 9223372036854775807 := by omega
  have hp : 0 < xs.length → ∃ b off, p = some ⟨b, off, none⟩ ∧ ∀ j, j < xs.length → w.cell? ⟨b, off + j, none⟩ = some (.int .i64 (xs.getD j 0)) := by
    intro h0
    obtain ⟨b, off, e, h1, _, h3⟩ := hpx (by intro e; simp [e] at h0)
    exact ⟨b, off, e, fun j hj => (h3 j hj).1⟩
  have hin : plsB xs = true ↔ ∀ j, j < xs.length → plB (xs.getD j 0) = true := by
    constructor
    · intro h j hj
      have := plsB_mem h xs[j] (List.getElem_mem hj)
      simpa [List.getD, List.getElem?_eq_getElem hj] using this
    · intro h
      refine plsB_mk fun x hx => ?_
      obtain ⟨j, hj, rfl⟩ := List.mem_iff_getElem.1 hx
      have := h j hj
      simpa [List.getD, List.getElem?_eq_getElem hj] using this
  generalize plsB xs = r at *
  obtain ⟨g, hg⟩ : ∃ g : Nat → Int, ∀ j, xs.getD j 0 = g j := ⟨_, fun _ => rfl⟩
  simp only [hg] at hp hin
  clear hpx hg hl hc
  generalize xs.length = n at *
  go_enter Try.func26, Try.ntmps26
  go_wp2
  go_loop [3] (fun i => ∃ k : Nat, k ≤ n ∧ i = .int .i64 k ∧ (∀ j, j < k → plB (g j) = true)) (fun i => n - (intOf i).toNat)
  case atStart => exact ⟨0, Nat.zero_le _, rfl, fun j hj => absurd hj (Nat.not_lt_zero _)⟩
  case round =>
    obtain ⟨k, hk, rfl, hj⟩ := hrel
    by_cases hlt : k < n
    · obtain ⟨b, off, rfl, h1⟩ := hp (by omega)
      have c1 : w.cell? ⟨b, off + k, none⟩ = some (.int .i64 (g k)) := h1 k hlt
      have hlt' : (k : Int) < (n : Int) := by omega
      clear h1 hp
      by_cases he : plB (g k) = true
      · have hj' : ∀ j, j < k + 1 → plB (g j) = true := fun j hjk => by
          by_cases e : j = k
          · rw [e]; exact he
          · exact hj j (by omega)
        clear hin hj
        go_wp2_with (go_at_call 25; refine (rPlaceMay_any _ _).mono ?_; rintro e w' ⟨rfl, rfl⟩)
        go_round
        case rel => exact ⟨k + 1, by omega, by go_num, hj'⟩
        case measure => simp [intOf]; omega
      · have hrf : r = false := by
          cases hr : r with
          | false => rfl
          | true => exact absurd (hin.1 hr k hlt) he
        have he : plB (g k) = false := by simpa using he
        subst hrf
        clear hin hj
        go_wp2_with (go_at_call 25; refine (rPlaceMay_any _ _).mono ?_; rintro e w' ⟨rfl, rfl⟩)
        go_ret
        exact ⟨rfl, rfl⟩
    · have hrt : r = true := hin.2 fun j hjn => hj j (by omega)
      subst hrt
      clear hin hj hp
      go_wp2
      go_ret
      exact ⟨rfl, rfl⟩

end Go.Proofs.Ytghamcomjfholaa

namespace Go.Proofs.Ytghamcomjfholaa
open Go.ChangeShapes Go.WideShapes Go.ChangeAt Go.RowKit

set_option maxHeartbeats 400000 in
theorem rPaMay_core (p : Option Addr) (n c : Nat) (g : Nat → Int) (w : World) (hn : n ≤ 9223372036854775807)
    (hp : 0 < n → ∃ b off, p = some ⟨b, off, none⟩ ∧ ∀ j, j < n → w.cell? ⟨b, off + j, none⟩ = some (.int .i64 (g j))) (r s R : Bool) (hR : R = (r && (s && decide (n ≤ 16)))) (hr : r = true ↔ ∀ j, j + 1 < n → g j < g (j + 1))
    (hm : ∀ q, Calls Try.prog 26 #[.slice p n c] (w.drewN q) fun e w' => e = .returned (.bool s) ∧ w' = w.drewN q) :
    Calls Try.prog 48 #[.slice p n c] w fun e w' => e = .returned (.bool R) ∧ ∃ q, w' = w.drewN q := by
  replace hR := toHid hR
  go_enter Try.func48, Try.ntmps48
  go_wp2
  go_loopw [3] (fun i wr => ∃ k q : Nat, (k = 0 ∨ k + 1 ≤ n) ∧ i = .int .i64 ((k : Int) + 1) ∧ Hid (∀ j, j < k → g j < g (j + 1)) ∧ wr = w.drewN q) (fun i _ => n + 1 - (intOf i).toNat)
  case atStart => exact ⟨0, 0, .inl rfl, rfl, toHid (fun j hj => absurd hj (Nat.not_lt_zero _)), rfl⟩
  case round =>
    obtain ⟨k, q, hk, rfl, hj, rfl⟩ := hrel
    by_cases hlt : k + 1 < n
    · obtain ⟨b, off, rfl, h1⟩ := hp (by omega)
      have c1 : w.cell? ⟨b, off + k, none⟩ = some (.int .i64 (g k)) := h1 k (by omega)
      have c2 : w.cell? ⟨b, off + (k + 1), none⟩ = some (.int .i64 (g (k + 1))) := h1 (k + 1) hlt
      have hlt' : (k : Int) + 1 < (n : Int) := by omega
      have hlt2 : (k : Int) < (n : Int) := by omega
      clear h1 hp hm
      by_cases he : g k < g (k + 1)
      · have hj' : Hid (∀ j, j < k + 1 → g j < g (j + 1)) := toHid fun j hjk => by
          by_cases e : j = k
          · rw [e]; exact he
          · exact hj.out j (by omega)
        have he2 : ¬ g (k + 1) ≤ g k := by omega
        clear hj hr
        generalize g k = x at *
        generalize g (k + 1) = y at *
        go_wp2
        go_quiet (fail)
        go_wp2
        go_roundw
        case rel => exact ⟨k + 1, q + nq, .inr (by omega), by go_num, hj', rfl⟩
        case measure => simp [intOf]; omega
      · have hrf : r = false := by
          cases r with
          | false => rfl
          | true => exact absurd (hr.1 rfl k hlt) he
        subst hrf
        obtain rfl : R = false := by rw [hR.out]; rfl
        have he2 : g (k + 1) ≤ g k := by omega
        clear hj hr
        generalize g k = x at *
        generalize g (k + 1) = y at *
        go_wp2
        go_quiet (fail)
        go_wp2
        go_ret
        exact ⟨rfl, q + nq, by rw [World.drewN_drewN]⟩
    · have hrt : r = true := hr.2 fun j hjn => hj.out j (by omega)
      subst hrt
      have hlt' : ¬ (k : Int) + 1 < (n : Int) := by omega
      have hmq := hm q
      clear hm hp hr hj
      cases s with
      | false =>
        obtain rfl : R = false := by rw [hR.out]; rfl
        go_wp2_with (go_at_call 26; refine hmq.mono ?_; rintro e w' ⟨rfl, hw'⟩; subst w')
        go_ret
        exact ⟨rfl, q, rfl⟩
      | true =>
        by_cases hl : n ≤ 16
        · have hl1 : (n : Int) ≤ 16 := by omega
          obtain rfl : R = true := by rw [hR.out, decide_eq_true hl]; rfl
          have hl2 : decide ((n : Int) ≤ 16) = true := decide_eq_true hl1
          go_wp2_with (go_at_call 26; refine hmq.mono ?_; rintro e w' ⟨rfl, hw'⟩; subst w')
          go_ret
          exact ⟨rfl, q, rfl⟩
        · have hl1 : ¬ (n : Int) ≤ 16 := by omega
          obtain rfl : R = false := by rw [hR.out, decide_eq_false hl]; rfl
          have hl2 : decide ((n : Int) ≤ 16) = false := decide_eq_false hl1
          go_wp2_with (go_at_call 26; refine hmq.mono ?_; rintro e w' ⟨rfl, hw'⟩; subst w')
          go_ret
          exact ⟨rfl, q, rfl⟩

theorem rPaMay_any {lo hi : Nat} {w : World} {v : Value} {xs : List Int} (hx : RowI lo hi w v xs) :
    Calls Try.prog 48 #[v] w fun e w' => e = .returned (.bool (paB xs)) ∧ ∃ q, w' = w.drewN q := by
  have hm := fun q => placesMay_any (hx.drewN q)
  have e : paB xs = (decide (Up xs) && (plsB xs && decide (xs.length ≤ 16))) := by
    rw [Bool.eq_iff_iff, paB_iff]
    simp only [Bool.and_eq_true, decide_eq_true_iff]
    exact ⟨fun ⟨h1, h2, h3⟩ => ⟨h3, h2, h1⟩, fun ⟨h3, h2, h1⟩ => ⟨h1, h2, h3⟩⟩
  obtain ⟨p, c, rfl, hl, hc, hpx⟩ := hx
  unfold maxLen at hc
  refine rPaMay_core p xs.length c (fun j => xs.getD j 0) w (by omega) (fun h0 => ?_) _ _ _ e ?_ hm
  · obtain ⟨b, off, e, _, _, h3⟩ := hpx (by intro e; simp [e] at h0)
    exact ⟨b, off, e, fun j hj => (h3 j hj).1⟩
  · rw [decide_eq_true_iff, up_at]

end Go.Proofs.Ytghamcomjfholaa

namespace Go.Proofs.Ytghamcomjfholaa
open Go.ChangeShapes Go.WideShapes Go.ChangeAt Go.RowKit

/-! ### Plain numbers -/
def cntB (c : Int) : Bool := decide (1 ≤ c ∧ c ≤ 65535)
def verB (c u : Int) : Bool := cntB c && plB u
def gtB (c u d v : Int) : Bool := decide (d < c) || (decide (c = d) && decide (v < u))
def newB (c u d v : Int) : Bool := (verB c u && verB d v) && gtB c u d v
/-! ### The functions -/
theorem vIsPlace_any (a : Int) (w : World) :
    Calls Try.prog 90 #[.int .i64 a] w fun e w' => e = .returned (.bool (plB a)) ∧ w' = w := by
  by_cases h : plB a = true
  · rw [h]
    go_enter Try.func90, Try.ntmps90
    go_wp2_with (first | (go_at_call 80; refine (distance_yes _ _ _ h h).mono ?_; rintro e w' ⟨rfl, rfl⟩))
    go_ret
    exact ⟨rfl, rfl⟩
  · have h : plB a = false := by simpa using h
    rw [h]
    go_enter Try.func90, Try.ntmps90
    go_wp2_with (first | (go_at_call 80; refine (distance_no _ _ _ (Or.inl h)).mono ?_; rintro e w' ⟨rfl, rfl⟩))
    go_ret
    exact ⟨rfl, rfl⟩

theorem may_any (c u : Int) (w : World) :
    Calls Try.prog 82 #[.agg #[.int .i64 c, .int .i64 u]] w fun e w' => e = .returned (.bool (verB c u)) ∧ Below w.heap.size w w' := by
  by_cases h1 : 1 ≤ c
  · by_cases h2 : c ≤ 65535
    · have e : verB c u = plB u := by simp [verB, cntB, h1, h2]
      rw [e]
      clear e
      go_enter Try.func82, Try.ntmps82
      go_wp2_with (first | (go_at_call 90; refine (vIsPlace_any _ _).mono ?_; rintro e w' ⟨rfl, hw'⟩; subst w'))
      go_ret
      exact ⟨rfl, (Below.refl _ w).onA _⟩
    · have e : verB c u = false := by simp [verB, cntB, h2]
      have hd : decide (c ≤ 65535) = false := by simpa using h2
      rw [e]
      clear e
      go_enter Try.func82, Try.ntmps82
      go_wp2_with fail
      go_ret
      exact ⟨rfl, (Below.refl _ w).onA _⟩
  · have e : verB c u = false := by simp [verB, cntB, h1]
    have hd : decide (1 ≤ c) = false := by simpa using h1
    rw [e]
    clear e
    go_enter Try.func82, Try.ntmps82
    go_wp2_with fail
    go_ret
    exact ⟨rfl, (Below.refl _ w).onA _⟩

theorem rMay_any (c u : Int) (w : World) :
    Calls Try.prog 45 #[.agg #[.int .i64 c, .int .i64 u]] w fun e w' => e = .returned (.bool (verB c u)) ∧ Below w.heap.size w w' := by
  by_cases h1 : 1 ≤ c
  · by_cases h2 : c ≤ 65535
    · have e : verB c u = plB u := by simp [verB, cntB, h1, h2]
      rw [e]
      clear e
      go_enter Try.func45, Try.ntmps45
      go_wp2_with (first | (go_at_call 25; refine (rPlaceMay_any _ _).mono ?_; rintro e w' ⟨rfl, hw'⟩; subst w'))
      go_ret
      exact ⟨rfl, (Below.refl _ w).onA _⟩
    · have e : verB c u = false := by simp [verB, cntB, h2]
      have hd : decide (c ≤ 65535) = false := by simpa using h2
      rw [e]
      clear e
      go_enter Try.func45, Try.ntmps45
      go_wp2_with fail
      go_ret
      exact ⟨rfl, (Below.refl _ w).onA _⟩
  · have e : verB c u = false := by simp [verB, cntB, h1]
    have hd : decide (1 ≤ c) = false := by simpa using h1
    rw [e]
    clear e
    go_enter Try.func45, Try.ntmps45
    go_wp2_with fail
    go_ret
    exact ⟨rfl, (Below.refl _ w).onA _⟩


end Go.Proofs.Ytghamcomjfholaa
