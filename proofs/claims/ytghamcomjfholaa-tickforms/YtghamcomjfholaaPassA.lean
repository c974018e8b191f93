
/-
  Contracts of package passive's small functions (no place; do they rise; may they be; where a place stands), at every list of ints: what they return, and that memory is untouched.
-/
import Derived.Test.YtghamcomjfholaaPassMath
import Derived.Test.YtghamcomjfholaaContLays
import Derived.Test.YtghamcomjfholaaIntRow
namespace Go.Proofs.Ytghamcomjfholaa
open Go.ChangeShapes Go.WideShapes Go.ChangeAt Go.RowKit Go.Shelf Go.Lib

theorem qNo_any (x : Int) (w : World) :
    Calls Try.prog 70 #[.int .i64 x] w fun e w' => e = .returned (.bool (!plB x)) ∧ w' = w := by
  rcases Bool.eq_false_or_eq_true (plB x) with h | h
  · rw [h]
    go_enter Try.func70, Try.ntmps70
    go_wp2_with (go_at_call 80; refine (distance_yes _ _ _ h h).mono ?_; rintro e w' ⟨rfl, hw'⟩; subst w')
    go_ret
    exact ⟨rfl, rfl⟩
  · rw [h]
    go_enter Try.func70, Try.ntmps70
    go_wp2_with (go_at_call 80; refine (distance_no _ _ _ (.inl h)).mono ?_; rintro e w' ⟨rfl, hw'⟩; subst w')
    go_ret
    exact ⟨rfl, rfl⟩

theorem qContains_any {lo hi : Nat} {w : World} {v : Value} {xs : List Int} (hv : RowI lo hi w v xs) :
    Calls Try.prog 54 #[v, .func (.func 70) #[] #[]] w fun e w' => e = .returned (.bool (!plsB xs)) ∧ ∃ q, w' = w.drewN q := by
  have hmax := hv.max
  unfold maxLen at hmax
  obtain ⟨p, c, rfl, hl, hc, hpx⟩ := hv
  by_cases h0 : xs = []
  · subst h0
    exact (AnyE.slices_ContainsFunc_empty containsL p c _ w).mono fun e w' ⟨he, hw⟩ => ⟨he, 0, hw⟩
  · obtain ⟨b, off, rfl, _, _, h3⟩ := hpx h0
    have eg : ∀ args w, (callFunc 70 args).run Try.prog w = .ok (.enter 70 args) w := enters_of Try.func70 (by kernel_rfl) rfl
    have hp : PredAt Try.prog 70 #[] (Value.int .i64) (fun x => !plB x) w := fun W x _ => by
      unfold FnGives
      exact (qNo_any x W).mono fun e w' ⟨he, hw⟩ => ⟨he, 0, hw⟩
    have h := AnyE.slices_ContainsFunc containsL (Value.int .i64) (fun x => !plB x) 70 #[] eg b off xs.length c xs w hp (Nat.le_refl _) (by omega)
      (fun j hj => by rw [(h3 j hj).1, getElem!_pos xs j hj]; simp [List.getD, List.getElem?_eq_getElem hj])
    rw [List.take_length, any_not_plB] at h
    exact h

set_option maxHeartbeats 400000 in
theorem qRis_core (p : Option Addr) (n c : Nat) (g : Nat → Int) (w : World) (hn : n ≤ 9223372036854775807)
    (hp : 0 < n → ∃ b off, p = some ⟨b, off, none⟩ ∧ ∀ j, j < n → w.cell? ⟨b, off + j, none⟩ = some (.int .i64 (g j))) (r : Bool) (hr : r = true ↔ ∀ j, j + 1 < n → g j < g (j + 1)) :
    Calls Try.prog 71 #[.slice p n c] w fun e w' => e = .returned (.bool r) ∧ ∃ q, w' = w.drewN q := by
  go_enter Try.func71, Try.ntmps71
  go_wp2
  go_loopw [3] (fun i wr => ∃ k q : Nat, (k = 0 ∨ k + 1 ≤ n) ∧ i = .int .i64 ((k : Int) + 1) ∧ Hid (∀ j, j < k → g j < g (j + 1)) ∧ wr = w.drewN q) (fun i _ => n + 1 - (intOf i).toNat)
  case atStart => exact ⟨0, 0, .inl rfl, rfl, toHid (fun j hj => absurd hj (Nat.not_lt_zero _)), rfl⟩
  case round =>
    obtain ⟨k, q, hk, rfl, hj, rfl⟩ := hrel
    by_cases hlt : k + 1 < n
    · obtain ⟨b, off, rfl, h1⟩ := hp (by omega)
      have c1 : w.cell? ⟨b, off + k, none⟩ = some (.int .i64 (g k)) := h1 k (by omega)
      have c2 : w.cell? ⟨b, off + (k + 1), none⟩ = some (.int .i64 (g (k + 1))) := h1 (k + 1) hlt
      have hlt' : (k : Int) + 1 < (n : Int) := by omega
      have hlt2 : (k : Int) < (n : Int) := by omega
      clear h1 hp
      by_cases he : g k < g (k + 1)
      · have hj' : Hid (∀ j, j < k + 1 → g j < g (j + 1)) := toHid fun j hjk => by
          by_cases e : j = k
          · rw [e]; exact he
          · exact hj.out j (by omega)
        have he2 : ¬ g (k + 1) ≤ g k := by omega
        clear hj hr
        generalize g k = x at *
        generalize g (k + 1) = y at *
        go_wp2
        go_quiet (fail)
        go_wp2
        go_roundw
        case rel => exact ⟨k + 1, q + nq, .inr (by omega), by go_num, hj', rfl⟩
        case measure => simp [intOf]; omega
      · have hrf : r = false := by
          cases r with
          | false => rfl
          | true => exact absurd (hr.1 rfl k hlt) he
        subst hrf
        have he2 : g (k + 1) ≤ g k := by omega
        clear hj hr
        generalize g k = x at *
        generalize g (k + 1) = y at *
        go_wp2
        go_quiet (fail)
        go_wp2
        go_ret
        exact ⟨rfl, q + nq, by rw [World.drewN_drewN]⟩
    · have hrt : r = true := hr.2 fun j hjn => hj.out j (by omega)
      subst hrt
      have hlt' : ¬ (k : Int) + 1 < (n : Int) := by omega
      go_wp2
      go_ret
      exact ⟨rfl, q, rfl⟩

theorem qRis_any {lo hi : Nat} {w : World} {v : Value} {xs : List Int} (hx : RowI lo hi w v xs) :
    Calls Try.prog 71 #[v] w fun e w' => e = .returned (.bool (decide (Up xs))) ∧ ∃ q, w' = w.drewN q := by
  obtain ⟨p, c, rfl, hl, hc, hpx⟩ := hx
  unfold maxLen at hc
  refine qRis_core p xs.length c (fun j => xs.getD j 0) w (by omega) (fun h0 => ?_) _ ?_
  · obtain ⟨b, off, e, _, _, h3⟩ := hpx (by intro e; simp [e] at h0)
    exact ⟨b, off, e, fun j hj => (h3 j hj).1⟩
  · rw [decide_eq_true_iff, up_at]

set_option maxHeartbeats 400000 in
theorem qMay_any {lo hi : Nat} {w : World} {v : Value} {xs : List Int} (hx : RowI lo hi w v xs) :
    Calls Try.prog 50 #[v] w fun e w' => e = .returned (.bool (paB xs)) ∧ ∃ q, w' = w.drewN q := by
  have H1 := qContains_any hx
  have H2 := fun q => qRis_any (hx.drewN q)
  obtain ⟨p, c, rfl, hl, hc, -⟩ := hx
  by_cases hl : xs.length ≤ 16
  · have hl1 : (xs.length : Int) ≤ 16 := by omega
    have e : paB xs = (plsB xs && decide (Up xs)) := by simp [paB, hl]
    rw [e]
    clear e
    generalize decide (Up xs) = r2 at *
    generalize plsB xs = r1 at *
    cases r1 with
    | false =>
      go_enter Try.func50, Try.ntmps50
      go_wp2_with (first
        | (go_at_call 54; refine H1.mono ?_; rintro e w' ⟨rfl, q, hw'⟩; subst w'))
      go_ret
      exact ⟨rfl, q, rfl⟩
    | true =>
      go_enter Try.func50, Try.ntmps50
      go_wp2_with (first
        | (go_at_call 54; refine H1.mono ?_; rintro e w' ⟨rfl, q, hw'⟩; subst w')
        | (go_at_call 71; refine (H2 _).mono ?_; rintro e w' ⟨rfl, q2, hw'⟩; subst w'))
      go_ret
      exact ⟨rfl, q + q2, rfl⟩
  · have e : paB xs = false := by simp [paB, hl]
    rw [e]
    clear e H1 H2
    have hl1 : ¬ (xs.length : Int) ≤ 16 := by omega
    have hd : decide ((xs.length : Int) ≤ 16) = false := decide_eq_false hl1
    go_enter Try.func50, Try.ntmps50
    go_wp2
    go_ret
    exact ⟨rfl, 0, rfl⟩
theorem less_any (x y : Int) (w : World) :
    Calls Try.prog 83 #[.int .i64 x, .int .i64 y] w fun e w' => e = .returned (.bool (decide (x < y))) ∧ w' = w := by
  by_cases h : x < y
  · rw [decide_eq_true h]
    go_enter Try.func83, Try.ntmps83
    go_wp2
    go_ret
    exact ⟨rfl, rfl⟩
  · rw [decide_eq_false h]
    have h2 : decide (x < y) = false := decide_eq_false h
    go_enter Try.func83, Try.ntmps83
    go_wp2
    go_ret
    exact ⟨rfl, rfl⟩

set_option maxHeartbeats 1000000 in
theorem qSearch_core (p : Option Addr) (n c : Nat) (g : Nat → Int) (d : Int) (w : World) (hn : n < 4611686018427387904)
    (hp : 0 < n → ∃ b off, p = some ⟨b, off, none⟩ ∧ ∀ j, j < n → w.cell? ⟨b, off + j, none⟩ = some (.int .i64 (g j)))
    (hs : ∀ i j, i ≤ j → j < n → g i ≤ g j) :
    Calls Try.prog 77 #[.slice p n c, .int .i64 d] w fun e w' =>
      ∃ m : Nat, m ≤ n ∧ e = .returned (.tuple #[.int .i64 m, .bool (decide (m < n) && decide (g m = d))]) ∧ (∀ t, t < m → g t < d) ∧ (∀ t, m ≤ t → t < n → d ≤ g t) ∧ w' = w := by
  replace hs : Hid _ := hs
  go_enter Try.func77, Try.ntmps77
  go_wp2
  go_loop [7, 8] (fun s7 s8 => ∃ lo hi : Nat, s7 = .int .i64 lo ∧ s8 = .int .i64 hi ∧ lo ≤ hi ∧ hi ≤ n ∧ Hid ((∀ t, t < lo → g t < d) ∧ (∀ t, hi ≤ t → t < n → d ≤ g t))) (fun s7 s8 => (intOf s8).toNat - (intOf s7).toNat)
  case atStart => exact ⟨0, n, rfl, rfl, Nat.zero_le _, Nat.le_refl _, ⟨fun t ht => absurd ht (Nat.not_lt_zero _), fun t h1 h2 => by omega⟩⟩
  case round =>
    obtain ⟨lo, hi, rfl, rfl, hlh, hin, I⟩ := hrel
    by_cases hlt : lo < hi
    · obtain ⟨b, off, rfl, h1⟩ := hp (by omega)
      obtain ⟨m, hm⟩ : ∃ m, m = (lo + hi) / 2 := ⟨_, rfl⟩
      have hmn : m < n := by omega
      have c1 : w.cell? ⟨b, off + m, none⟩ = some (.int .i64 (g m)) := h1 m hmn
      replace hm := toHid hm
      have hme : ((lo : Int) + (hi : Int)) / 2 = (m : Int) := by have := hm.out; omega
      have hY : Hid (∀ i, i ≤ m → g i ≤ g m) := fun i hi => hs.out i m hi hmn
      have hZ : Hid (∀ j, m ≤ j → j < n → g m ≤ g j) := fun j h1 h2 => hs.out m j h1 h2
      clear h1 hp
      generalize g m = z at c1 hY hZ
      by_cases hk : z < d
      · have hI : Hid ((∀ t, t < m + 1 → g t < d) ∧ (∀ t, hi ≤ t → t < n → d ≤ g t)) := ⟨fun t ht => by have := hY.out t (by omega); omega, I.out.2⟩
        have hk2 : decide (z < d) = true := decide_eq_true hk
        clear hs hY hZ I
        go_wp2_with (go_at_call 83; refine (less_any _ _ _).mono ?_; rintro e w1 ⟨rfl, hw1⟩; subst w1)
        go_round
        case rel => exact ⟨m + 1, hi, by go_num, rfl, by have := hm.out; omega, hin, hI⟩
        case measure => have := hm.out; simp [intOf]; omega
      · have hI : Hid ((∀ t, t < lo → g t < d) ∧ (∀ t, m ≤ t → t < n → d ≤ g t)) := ⟨I.out.1, fun t h1 h2 => by have := hZ.out t h1 h2; omega⟩
        have hk2 : decide (z < d) = false := decide_eq_false hk
        clear hs hY hZ I
        go_wp2_with (go_at_call 83; refine (less_any _ _ _).mono ?_; rintro e w1 ⟨rfl, hw1⟩; subst w1)
        go_round
        case rel => exact ⟨lo, m, rfl, by go_num, by have := hm.out; omega, by omega, hI⟩
        case measure => have := hm.out; simp [intOf]; omega
    · obtain rfl : hi = lo := by omega
      by_cases hn1 : hi < n
      · obtain ⟨b, off, rfl, h1⟩ := hp (by omega)
        have c1 : w.cell? ⟨b, off + hi, none⟩ = some (.int .i64 (g hi)) := h1 hi hn1
        have hn2 : (hi : Int) < (n : Int) := by omega
        clear h1 hp hs
        generalize hq : g hi = z at c1
        have hR : Hid ((decide (hi < n) && decide (g hi = d)) = decide (z = d)) := by rw [hq]; simp [Hid, hn1]
        clear hq
        by_cases hk : z = d
        · rw [decide_eq_true hk] at hR
          have hk2 : (z == d) = true := by simpa using hk
          go_wp2
          go_ret2
          exact ⟨hi, hin, by rw [hR.out]; rfl, I.out.1, I.out.2, rfl⟩
        · rw [decide_eq_false hk] at hR
          have hk2 : (z == d) = false := by simpa using hk
          go_wp2
          go_ret2
          exact ⟨hi, hin, by rw [hR.out]; rfl, I.out.1, I.out.2, rfl⟩
      · have hR : Hid ((decide (hi < n) && decide (g hi = d)) = false) := by simp [Hid, hn1]
        have hd : ¬ (hi : Int) < (n : Int) := by omega
        clear hp hs
        go_wp2
        go_ret2
        exact ⟨hi, hin, by rw [hR.out]; rfl, I.out.1, I.out.2, rfl⟩

/-- Where a place stands, or is to stand; is it there? -/
theorem qFind_any {lo hi : Nat} {w : World} {v : Value} {xs : List Int} (hx : RowI lo hi w v xs) (hl : xs.length ≤ 16) (hr : Up xs) (d : Int) :
    Calls Try.prog 77 #[v, .int .i64 d] w fun e w' =>
      e = .returned (.tuple #[.int .i64 (posI xs d), .bool (decide (d ∈ xs))]) ∧ PosI xs d (posI xs d) ∧ w' = w := by
  obtain ⟨p, c, rfl, _, hc, hpx⟩ := hx
  refine (qSearch_core p xs.length c (fun j => xs.getD j 0) d w (by omega) (fun h0 => ?_) (up_le hr)).mono ?_
  · obtain ⟨b, off, e, _, _, h3⟩ := hpx (by intro e; simp [e] at h0)
    exact ⟨b, off, e, fun j hj => (h3 j hj).1⟩
  · rintro e w' ⟨m, h1, he, h2, h3, hw⟩
    have hP : PosI xs d m := ⟨h1, h2, h3⟩
    have hm := hP.eq
    subst hm
    exact ⟨by rw [← hP.there hr]; exact he, hP, hw⟩

end Go.Proofs.Ytghamcomjfholaa
