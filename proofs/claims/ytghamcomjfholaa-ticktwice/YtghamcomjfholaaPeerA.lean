
/-
  Contracts of package peers' small functions (is it a place; where a place stands; do they rise; are all heard of; may they be), at every list of peers: what they return, and that no old memory has turned.
-/
import Derived.Test.YtghamcomjfholaaPeerMath
import Derived.Test.YtghamcomjfholaaOld
import Derived.Test.YtghamcomjfholaaRowBox
namespace Go.Proofs.Ytghamcomjfholaa
open Go.ChangeShapes Go.WideShapes Go.ChangeAt Go.RowKit

theorem pPlace_any (a : Int) (w : World) :
    Calls Try.prog 67 #[.int .i64 a] w fun e w' => e = .returned (.bool (plB a)) ∧ w' = w := by
  rcases Bool.eq_false_or_eq_true (plB a) with ha | ha
  · rw [ha]
    go_enter Try.func67, Try.ntmps67
    go_wp2_with (first | (go_at_call 80; refine (distance_yes _ _ _ ha ha).mono ?_; rintro e w' ⟨rfl, hw'⟩; subst w'))
    go_ret
    exact ⟨rfl, rfl⟩
  · rw [ha]
    go_enter Try.func67, Try.ntmps67
    go_wp2_with (first | (go_at_call 80; refine (distance_no _ _ _ (.inl ha)).mono ?_; rintro e w' ⟨rfl, hw'⟩; subst w'))
    go_ret
    exact ⟨rfl, rfl⟩

/-- The distance of the one before. -/
def preF (b : Int) (g : Nat → Pe) : Nat → Int
  | 0 => 0
  | k + 1 => far b (g k).n

set_option maxHeartbeats 1000000 in
theorem pRis_core (p : Option Addr) (n c : Nat) (g : Nat → Pe) (b0 : Int) (w : World) (hn : n ≤ 9223372036854775807) (hb0 : plB b0 = true)
    (hp : 0 < n → ∃ b off, p = some ⟨b, off, none⟩ ∧ b < w.heap.size ∧ ∀ j, j < n → PeAt w b (off + j * 2) (g j)) (r : Bool) (hr : r = true ↔ ∀ j, j < n → plB (g j).n = true ∧ preF b0 g j < far b0 (g j).n) :
    Calls Try.prog 68 #[.int .i64 b0, .slice p n c] w fun e w' => e = .returned (.bool r) ∧ Below w.heap.size w w' := by
  go_enter Try.func68, Try.ntmps68
  go_wp2
  go_loopw [5, 12] (fun l i wr => ∃ k : Nat, k ≤ n ∧ i = .int .i64 k ∧ l = .int .i64 (preF b0 g k) ∧ Hid (∀ j, j < k → plB (g j).n = true ∧ preF b0 g j < far b0 (g j).n) ∧ Below w.heap.size w wr) (fun _ i _ => n - (intOf i).toNat)
  case atStart => exact ⟨0, Nat.zero_le _, rfl, rfl, toHid (fun j hj => absurd hj (Nat.not_lt_zero _)), Below.refl _ _⟩
  case round =>
    obtain ⟨k, hk, rfl, rfl, hj, hbel⟩ := hrel
    by_cases hlt : k < n
    · obtain ⟨b, off, rfl, hb, h1⟩ := hp (by omega)
      obtain ⟨c1, c2⟩ := (h1 k hlt).below hbel hb
      have hlt' : (k : Int) < (n : Int) := by omega
      have hnx : Hid (preF b0 g (k + 1) = far b0 (g k).n) := rfl
      rcases Bool.eq_false_or_eq_true (plB (g k).n) with hi | hi
      · by_cases hf : preF b0 g k < far b0 (g k).n
        · have hj' : Hid (∀ j, j < k + 1 → plB (g j).n = true ∧ preF b0 g j < far b0 (g j).n) := toHid fun j hjk => by
            by_cases e : j = k
            · rw [e]; exact ⟨hi, hf⟩
            · exact hj.out j (by omega)
          have hf1 : ¬ far b0 (g k).n ≤ preF b0 g k := by omega
          have hf2 : decide (far b0 (g k).n ≤ preF b0 g k) = false := decide_eq_false hf1
          clear hj hr h1 hp hf
          generalize preF b0 g k = L at *
          generalize g k = z at c1 c2 hi hf1 hf2 hnx
          obtain ⟨zn, zm⟩ := z
          dsimp only at c1 c2 hi hf1 hf2 hnx
          go_wp2_with (go_at_call 80; refine (distance_yes _ _ _ hb0 hi).mono ?_; rintro e w' ⟨rfl, hw'⟩; subst w')
          go_roundw
          case rel => exact ⟨k + 1, by omega, by go_num, by rw [hnx.out], hj', hbel.onA _⟩
          case measure => simp [intOf]; omega
        · have hrf : r = false := by
            cases r with
            | false => rfl
            | true => exact absurd (hr.1 rfl k hlt).2 hf
          subst hrf
          have hf1 : far b0 (g k).n ≤ preF b0 g k := by omega
          have hf2 : decide (far b0 (g k).n ≤ preF b0 g k) = true := decide_eq_true hf1
          clear hj hr h1 hp hf hnx
          generalize preF b0 g k = L at *
          generalize g k = z at c1 c2 hi hf1 hf2
          obtain ⟨zn, zm⟩ := z
          dsimp only at c1 c2 hi hf1 hf2
          go_wp2_with (go_at_call 80; refine (distance_yes _ _ _ hb0 hi).mono ?_; rintro e w' ⟨rfl, hw'⟩; subst w')
          go_ret
          exact ⟨rfl, hbel.onA _⟩
      · have hrf : r = false := by
          cases r with
          | false => rfl
          | true => have := (hr.1 rfl k hlt).1; rw [hi] at this; cases this
        subst hrf
        clear hj hr h1 hp hnx
        generalize preF b0 g k = L at *
        generalize g k = z at c1 c2 hi
        obtain ⟨zn, zm⟩ := z
        dsimp only at c1 c2 hi
        go_wp2_with (go_at_call 80; refine (distance_no _ _ _ (.inr hi)).mono ?_; rintro e w' ⟨rfl, hw'⟩; subst w')
        go_ret
        exact ⟨rfl, hbel.onA _⟩
    · have hrt : r = true := hr.2 fun j hjn => hj.out j (by omega)
      subst hrt
      go_wp2
      go_ret
      exact ⟨rfl, hbel⟩

set_option maxHeartbeats 1000000 in
theorem pAll_core (p : Option Addr) (n c : Nat) (g : Nat → Pe) (w : World) (hn : n ≤ 9223372036854775807)
    (hp : 0 < n → ∃ b off, p = some ⟨b, off, none⟩ ∧ b < w.heap.size ∧ ∀ j, j < n → PeAt w b (off + j * 2) (g j)) (r : Bool) (hr : r = true ↔ ∀ j, j < n → miB (g j).m = true) :
    Calls Try.prog 69 #[.slice p n c] w fun e w' => e = .returned (.bool r) ∧ Below w.heap.size w w' := by
  go_enter Try.func69, Try.ntmps69
  go_wp2
  go_loopw [7] (fun i wr => ∃ k : Nat, k ≤ n ∧ i = .int .i64 k ∧ Hid (∀ j, j < k → miB (g j).m = true) ∧ Below w.heap.size w wr) (fun i _ => n - (intOf i).toNat)
  case atStart => exact ⟨0, Nat.zero_le _, rfl, toHid (fun j hj => absurd hj (Nat.not_lt_zero _)), Below.refl _ _⟩
  case round =>
    obtain ⟨k, hk, rfl, hj, hbel⟩ := hrel
    by_cases hlt : k < n
    · obtain ⟨b, off, rfl, hb, h1⟩ := hp (by omega)
      obtain ⟨c1, c2⟩ := (h1 k hlt).below hbel hb
      have hlt' : (k : Int) < (n : Int) := by omega
      rcases Bool.eq_false_or_eq_true (miB (g k).m) with hi | hi
      · have hj' : Hid (∀ j, j < k + 1 → miB (g j).m = true) := toHid fun j hjk => by
          by_cases e : j = k
          · rw [e]; exact hi
          · exact hj.out j (by omega)
        obtain ⟨m0, m1⟩ := miB_yes hi
        have m2 : ¬ (g k).m < 0 := by omega
        have m3 : ¬ 3 ≤ (g k).m := by omega
        have m4 : decide ((g k).m < 0) = false := decide_eq_false m2
        have m5 : decide (3 ≤ (g k).m) = false := decide_eq_false m3
        clear hj hr h1 hp hi
        generalize g k = z at c1 c2 m0 m1 m2 m3 m4 m5
        obtain ⟨zn, zm⟩ := z
        dsimp only at c1 c2 m0 m1 m2 m3 m4 m5
        go_wp2
        go_roundw
        case rel => exact ⟨k + 1, by omega, by go_num, hj', hbel.onA _⟩
        case measure => simp [intOf]; omega
      · have hrf : r = false := by
          cases r with
          | false => rfl
          | true => have := hr.1 rfl k hlt; rw [hi] at this; cases this
        subst hrf
        have hi2 : (g k).m < 0 ∨ (¬ (g k).m < 0 ∧ 3 ≤ (g k).m) := by simp [miB] at hi; omega
        clear hj hr h1 hp hi
        generalize g k = z at c1 c2 hi2
        obtain ⟨zn, zm⟩ := z
        dsimp only at c1 c2 hi2
        rcases hi2 with m2 | ⟨m2, m3⟩
        · go_wp2
          go_ret
          exact ⟨rfl, hbel.onA _⟩
        · have m5 : decide (3 ≤ zm) = true := decide_eq_true m3
          go_wp2
          go_ret
          exact ⟨rfl, hbel.onA _⟩
    · have hrt : r = true := hr.2 fun j hjn => hj.out j (by omega)
      subst hrt
      go_wp2
      go_ret
      exact ⟨rfl, hbel⟩

theorem boolOf (P : Prop) : ∃ r : Bool, r = true ↔ P := by
  by_cases h : P
  · exact ⟨true, by simp [h]⟩
  · exact ⟨false, by simp [h]⟩
theorem pRise_at (b : Int) (xs : List Pe) : psB b xs = true ↔ xs.length ≤ 16 ∧ plB b = true ∧ (∀ j, j < xs.length → plB (xs.getD j ⟨0, 0⟩).n = true ∧ preF b (fun j => xs.getD j ⟨0, 0⟩) j < far b (xs.getD j ⟨0, 0⟩).n) ∧ (∀ j, j < xs.length → miB (xs.getD j ⟨0, 0⟩).m = true) := by
  rw [psB_at b xs (far b) (fun _ _ _ => rfl)]
  constructor
  · rintro ⟨h1, h0, h2⟩
    refine ⟨h2, h0, fun j hj => ?_, fun j hj => (peB_iff.1 (h1 j hj).1).2.2⟩
    obtain ⟨e1, e2, e3⟩ := peB_iff.1 (h1 j hj).1
    refine ⟨e1, ?_⟩
    cases j with
    | zero =>
      show 0 < far b _
      have := far_bd b (xs.getD 0 ⟨0, 0⟩).n
      have h3 : far b (xs.getD 0 ⟨0, 0⟩).n ≠ 0 := fun e => e2 (far_zero h0 e1 e)
      omega
    | succ k => exact (h1 (k + 1) hj).2 (by omega)
  · rintro ⟨h2, h0, h1, h3⟩
    refine ⟨fun j hj => ⟨peB_iff.2 ⟨(h1 j hj).1, ?_, h3 j hj⟩, ?_⟩, h0, h2⟩
    · intro e
      have h4 := (h1 j hj).2
      rw [e, far_self] at h4
      cases j with
      | zero => exact absurd h4 (by show ¬ (0 : Int) < 0; omega)
      | succ k =>
        have h5 : far b (xs.getD k ⟨0, 0⟩).n < 0 := h4
        have := far_bd b (xs.getD k ⟨0, 0⟩).n
        omega
    · intro hz
      cases j with
      | zero => omega
      | succ k => exact (h1 (k + 1) hj).2

set_option maxHeartbeats 400000 in
theorem pMay_any {lo hi : Nat} {w : World} {v : Value} {xs : List Pe} (hx : RowP lo hi w v xs) (hh : hi ≤ w.heap.size) (b : Int) :
    Calls Try.prog 49 #[.int .i64 b, v] w fun e w' => e = .returned (.bool (psB b xs)) ∧ Below w.heap.size w w' := by
  obtain ⟨p, c, rfl, hn, hp⟩ := hx.pes hh
  replace hp : 0 < xs.length → ∃ b off, p = some ⟨b, off, none⟩ ∧ b < w.heap.size ∧ ∀ j, j < xs.length → PeAt w b (off + j * 2) (xs.getD j ⟨0, 0⟩) := fun h0 => by obtain ⟨b, off, e, _, h2, h3⟩ := hp h0; exact ⟨b, off, e, h2, h3⟩
  have hr := pRise_at b xs
  by_cases hl : xs.length ≤ 16
  · have hl1 : (xs.length : Int) ≤ 16 := by omega
    rcases Bool.eq_false_or_eq_true (plB b) with hb | hb
    · obtain ⟨r1, h1⟩ : ∃ r : Bool, r = true ↔ ∀ j, j < xs.length → plB (xs.getD j ⟨0, 0⟩).n = true ∧ preF b (fun j => xs.getD j ⟨0, 0⟩) j < far b (xs.getD j ⟨0, 0⟩).n := boolOf _
      obtain ⟨r2, h2⟩ : ∃ r : Bool, r = true ↔ ∀ j, j < xs.length → miB (xs.getD j ⟨0, 0⟩).m = true := boolOf _
      have H1 := pRis_core p xs.length c (fun j => xs.getD j ⟨0, 0⟩) b w hn hb hp r1 h1
      have H2 : Hid (∀ w', Below w.heap.size w w' → _) := fun w' hw => pAll_core p xs.length c (fun j => xs.getD j ⟨0, 0⟩) w' hn (fun h0 => by obtain ⟨b, off, e, h2, h3⟩ := hp h0; exact ⟨b, off, e, Nat.lt_of_lt_of_le h2 hw.size, fun j hj => (h3 j hj).below hw h2⟩) r2 h2
      have hR : psB b xs = (r1 && r2) := by
        rw [Bool.eq_iff_iff, Bool.and_eq_true_iff, hr, h1, h2]
        exact ⟨fun h => ⟨h.2.2.1, h.2.2.2⟩, fun h => ⟨hl, hb, h.1, h.2⟩⟩
      rw [hR]
      clear hR h1 h2 hr hp hx
      cases r1 with
      | false =>
        go_enter Try.func49, Try.ntmps49
        go_wp2_with (first
          | (go_at_call 67; refine (pPlace_any _ _).mono ?_; rintro e w' ⟨rfl, hw'⟩; subst w')
          | (go_at_call 68; refine H1.mono ?_; rintro e w1 ⟨rfl, hb1⟩))
        go_ret
        exact ⟨rfl, hb1⟩
      | true =>
        go_enter Try.func49, Try.ntmps49
        go_wp2_with (first
          | (go_at_call 67; refine (pPlace_any _ _).mono ?_; rintro e w' ⟨rfl, hw'⟩; subst w')
          | (go_at_call 68; refine H1.mono ?_; rintro e w1 ⟨rfl, hb1⟩)
          | (go_at_call 69; refine (H2.out _ hb1).mono ?_; rintro e w2 ⟨rfl, hb2⟩))
        go_ret
        exact ⟨rfl, hb1.on hb2⟩
    · have e : psB b xs = false := by rw [Bool.eq_false_iff]; intro h; rw [(hr.1 h).2.1] at hb; cases hb
      rw [e]
      clear e hr hp hx
      go_enter Try.func49, Try.ntmps49
      go_wp2_with (first
        | (go_at_call 67; refine (pPlace_any _ _).mono ?_; rintro e w' ⟨rfl, hw'⟩; subst w'))
      go_ret
      exact ⟨rfl, Below.refl _ _⟩
  · have e : psB b xs = false := by rw [Bool.eq_false_iff]; intro h; exact hl (hr.1 h).1
    have hl1 : ¬ (xs.length : Int) ≤ 16 := by omega
    rw [e]
    clear e hr hp hx
    go_enter Try.func49, Try.ntmps49
    go_wp2
    go_ret
    exact ⟨rfl, Below.refl _ _⟩
theorem pMay_is {lo hi : Nat} {w : World} {v : Value} {xs : List Pe} (hx : RowP lo hi w v xs) (hh : hi ≤ w.heap.size) {b : Int} {r : Bool} (h : psB b xs = r) :
    Calls Try.prog 49 #[.int .i64 b, v] w fun e w' => e = .returned (.bool r) ∧ Below w.heap.size w w' := h ▸ pMay_any hx hh b

end Go.Proofs.Ytghamcomjfholaa
