
/-
  Contracts of package store's small functions (where a key stands; may all be; do they rise), at every list of items: what they return, and that no old memory has turned.
-/
import Derived.Test.YtghamcomjfholaaMsgMath
import Derived.Test.YtghamcomjfholaaItemRow
import Derived.Test.YtghamcomjfholaaOnly
import Derived.Test.YtghamcomjfholaaOld
import Derived.Test.YtghamcomjfholaaRowBox
import Derived.Test.YtghamcomjfholaaStoreRef
namespace Go.Proofs.Ytghamcomjfholaa
open Go.ChangeShapes Go.WideShapes Go.ChangeAt Go.RowKit

theorem iMay_yes (k c u x : Int) (g : Bool) (w : World) (h : itB ⟨k, c, u, x, g⟩ = true) :
    Calls Try.prog 74 #[.agg #[.int .i64 k, .int .i64 c, .int .i64 u, .int .i64 x, .bool g]] w fun e w' => e = .returned (.bool true) ∧ Below w.heap.size w w' := h ▸ iMay_any k c u x g w
theorem iMay_no (k c u x : Int) (g : Bool) (w : World) (h : itB ⟨k, c, u, x, g⟩ = false) :
    Calls Try.prog 74 #[.agg #[.int .i64 k, .int .i64 c, .int .i64 u, .int .i64 x, .bool g]] w fun e w' => e = .returned (.bool false) ∧ Below w.heap.size w w' := h ▸ iMay_any k c u x g w

set_option maxHeartbeats 1000000 in
theorem sAll_core (p : Option Addr) (n c : Nat) (g : Nat → It) (w : World) (hn : n ≤ 9223372036854775807)
    (hp : 0 < n → ∃ b off, p = some ⟨b, off, none⟩ ∧ b < w.heap.size ∧ ∀ j, j < n → ItAt w b (off + j * 5) (g j)) (r : Bool) (hr : r = true ↔ ∀ j, j < n → itB (g j) = true) :
    Calls Try.prog 55 #[.slice p n c] w fun e w' => e = .returned (.bool r) ∧ Below w.heap.size w w' := by
  go_enter Try.func55, Try.ntmps55
  go_wp2
  go_loopw [7] (fun i wr => ∃ k : Nat, k ≤ n ∧ i = .int .i64 k ∧ Hid (∀ j, j < k → itB (g j) = true) ∧ Below w.heap.size w wr) (fun i _ => n - (intOf i).toNat)
  case atStart => exact ⟨0, Nat.zero_le _, rfl, toHid (fun j hj => absurd hj (Nat.not_lt_zero _)), Below.refl _ _⟩
  case round =>
    obtain ⟨k, hk, rfl, hj, hbel⟩ := hrel
    by_cases hlt : k < n
    · obtain ⟨b, off, rfl, hb, h1⟩ := hp (by omega)
      obtain ⟨c1, c2, c3, c4, c5⟩ := (h1 k hlt).below hbel hb
      have hlt' : (k : Int) < (n : Int) := by omega
      rcases Bool.eq_false_or_eq_true (itB (g k)) with hi | hi
      · have hj' : Hid (∀ j, j < k + 1 → itB (g j) = true) := toHid fun j hjk => by
          by_cases e : j = k
          · rw [e]; exact hi
          · exact hj.out j (by omega)
        clear hj hr h1 hp
        generalize g k = z at c1 c2 c3 c4 c5 hi
        obtain ⟨zk, zc, zu, zx, zg⟩ := z
        dsimp only at c1 c2 c3 c4 c5
        go_wp2_with (go_at_call 74; refine (iMay_yes _ _ _ _ _ _ hi).mono ?_; rintro e w1 ⟨rfl, hb1⟩)
        go_roundw
        case rel => exact ⟨k + 1, by omega, by go_num, hj', by first | exact hbel.on hb1 | exact (hbel.onA _).on hb1⟩
        case measure => simp [intOf]; omega
      · have hrf : r = false := by
          cases r with
          | false => rfl
          | true => have := hr.1 rfl k hlt; rw [hi] at this; cases this
        subst hrf
        clear hj hr h1 hp
        generalize g k = z at c1 c2 c3 c4 c5 hi
        obtain ⟨zk, zc, zu, zx, zg⟩ := z
        dsimp only at c1 c2 c3 c4 c5
        go_wp2_with (go_at_call 74; refine (iMay_no _ _ _ _ _ _ hi).mono ?_; rintro e w1 ⟨rfl, hb1⟩)
        go_ret
        exact ⟨rfl, by first | exact hbel.on hb1 | exact (hbel.onA _).on hb1⟩
    · have hrt : r = true := hr.2 fun j hjn => hj.out j (by omega)
      subst hrt
      go_wp2
      go_ret
      exact ⟨rfl, hbel⟩

set_option maxHeartbeats 1000000 in
theorem sRis_core (p : Option Addr) (n c : Nat) (g : Nat → It) (w : World) (hn : n ≤ 9223372036854775807)
    (hp : 0 < n → ∃ b off, p = some ⟨b, off, none⟩ ∧ b < w.heap.size ∧ ∀ j, j < n → ItAt w b (off + j * 5) (g j)) (r : Bool) (hr : r = true ↔ ∀ j, j + 1 < n → (g j).k < (g (j + 1)).k) :
    Calls Try.prog 56 #[.slice p n c] w fun e w' => e = .returned (.bool r) ∧ Below w.heap.size w w' := by
  go_enter Try.func56, Try.ntmps56
  go_wp2
  go_loopw [3] (fun i wr => ∃ k : Nat, (k = 0 ∨ k + 1 ≤ n) ∧ i = .int .i64 ((k : Int) + 1) ∧ Hid (∀ j, j < k → (g j).k < (g (j + 1)).k) ∧ Below w.heap.size w wr) (fun i _ => n - (intOf i).toNat)
  case atStart => exact ⟨0, .inl rfl, rfl, toHid (fun j hj => absurd hj (Nat.not_lt_zero _)), Below.refl _ _⟩
  case round =>
    obtain ⟨k, hk, rfl, hj, hbel⟩ := hrel
    by_cases hlt : k + 1 < n
    · obtain ⟨b, off, rfl, hb, h1⟩ := hp (by omega)
      have c1 := ((h1 k (by omega)).below hbel hb).1
      have c2 := ((h1 (k + 1) hlt).below hbel hb).1
      have hlt1 : (k : Int) + 1 < (n : Int) := by omega
      have hlt2 : (k : Int) < (n : Int) := by omega
      have hk1 : (0 : Int) ≤ (k : Int) + 1 := by omega
      by_cases hlk : (g k).k < (g (k + 1)).k
      · have hj' : Hid (∀ j, j < k + 1 → (g j).k < (g (j + 1)).k) := toHid fun j hjk => by
          by_cases e : j = k
          · rw [e]; exact hlk
          · exact hj.out j (by omega)
        clear hj hr h1 hp
        generalize (g k).k = y at *
        generalize (g (k + 1)).k = z at *
        go_wp2
        go_quiet (fail)
        go_wp2
        go_roundw
        case rel => exact ⟨k + 1, by omega, by go_num, hj', hbel.onD _⟩
        case measure => simp [intOf]; omega
      · have hrf : r = false := by
          cases r with
          | false => rfl
          | true => exact absurd (hr.1 rfl k hlt) hlk
        subst hrf
        clear hj hr h1 hp
        generalize (g k).k = y at *
        generalize (g (k + 1)).k = z at *
        go_wp2
        go_quiet (fail)
        go_wp2
        go_ret
        exact ⟨rfl, hbel.onD _⟩
    · have hrt : r = true := hr.2 fun j hjn => hj.out j (by omega)
      subst hrt
      have hlt' : ¬ (k : Int) + 1 < (n : Int) := by omega
      go_wp2
      go_ret
      exact ⟨rfl, hbel⟩

end Go.Proofs.Ytghamcomjfholaa

namespace Go.Proofs.Ytghamcomjfholaa
open Go.ChangeShapes Go.WideShapes Go.ChangeAt Go.RowKit

theorem sAll_any {lo hi : Nat} {w : World} {v : Value} {xs : List It} (hx : RowT lo hi w v xs) (hh : hi ≤ w.heap.size) :
    Calls Try.prog 55 #[v] w fun e w' => e = .returned (.bool (decide (Val xs))) ∧ Below w.heap.size w w' := by
  obtain ⟨p, c, rfl, hn, hp⟩ := hx.its hh
  refine sAll_core p xs.length c (fun j => xs.getD j ⟨0, 0, 0, 0, false⟩) w hn (fun h0 => ?_) _ ?_
  · obtain ⟨b, off, e, _, h2, h3⟩ := hp h0
    exact ⟨b, off, e, h2, h3⟩
  · rw [decide_eq_true_iff]
    constructor
    · intro h j hj
      rw [getD_at _ _ hj]
      exact h _ (List.getElem_mem hj)
    · intro h x hx
      obtain ⟨j, hj, rfl⟩ := List.mem_iff_getElem.1 hx
      have := h j hj
      rwa [getD_at _ _ hj] at this

theorem srt_iff (xs : List It) : Srt xs ↔ ∀ j, j + 1 < xs.length → (xs.getD j ⟨0, 0, 0, 0, false⟩).k < (xs.getD (j + 1) ⟨0, 0, 0, 0, false⟩).k := by
  constructor
  · intro h j hj
    rw [getD_at _ _ hj, getD_at _ _ (show j < xs.length by omega)]
    exact List.pairwise_iff_getElem.1 h _ _ _ _ (by omega)
  · intro h
    refine List.pairwise_iff_getElem.2 ?_
    have step : ∀ d i (hi : i + 1 + d < xs.length), (xs[i]'(by omega)).k < (xs[i + 1 + d]).k := by
      intro d
      induction d with
      | zero =>
        intro i hi
        have := h i hi
        rwa [getD_at _ _ hi, getD_at _ _ (show i < xs.length by omega)] at this
      | succ d ih =>
        intro i hi
        have a := ih i (by omega)
        have := h (i + 1 + d) hi
        rw [getD_at _ _ (show i + 1 + d + 1 < xs.length from hi), getD_at _ _ (show i + 1 + d < xs.length by omega)] at this
        exact Int.lt_trans a this
    intro i j hi hj hij
    have := step (j - i - 1) i (by omega)
    have e : i + 1 + (j - i - 1) = j := by omega
    simpa only [e] using this

theorem sRis_any {lo hi : Nat} {w : World} {v : Value} {xs : List It} (hx : RowT lo hi w v xs) (hh : hi ≤ w.heap.size) :
    Calls Try.prog 56 #[v] w fun e w' => e = .returned (.bool (decide (Srt xs))) ∧ Below w.heap.size w w' := by
  obtain ⟨p, c, rfl, hn, hp⟩ := hx.its hh
  refine sRis_core p xs.length c (fun j => xs.getD j ⟨0, 0, 0, 0, false⟩) w hn (fun h0 => ?_) _ ?_
  · obtain ⟨b, off, e, _, h2, h3⟩ := hp h0
    exact ⟨b, off, e, h2, h3⟩
  · rw [decide_eq_true_iff]
    exact srt_iff xs

theorem sMay_any {lo hi : Nat} {w : World} {v : Value} {xs : List It} (hx : RowT lo hi w v xs) (hh : hi ≤ w.heap.size) :
    Calls Try.prog 33 #[v] w fun e w' => e = .returned (.bool (stB xs)) ∧ Below w.heap.size w w' := by
  have HA := sAll_any hx hh
  have HR : Hid (∀ w', Below w.heap.size w w' → Calls Try.prog 56 #[v] w' fun e w'' => e = .returned (.bool (decide (Srt xs))) ∧ Below w'.heap.size w' w'') := fun w' hb => sRis_any (hx.below hb hh) (Nat.le_trans hh hb.size)
  obtain ⟨p, c, rfl, hn, hp⟩ := hx.its hh
  clear hp
  by_cases hl : xs.length ≤ 16
  · have hl' : (xs.length : Int) ≤ 16 := by omega
    by_cases hv : Val xs
    · have e : stB xs = decide (Srt xs) := by unfold stB; rw [decide_eq_decide]; exact ⟨fun h => h.2.1, fun h => ⟨hv, h, hl⟩⟩
      rw [decide_eq_true hv] at HA
      rw [e]
      clear e hv
      generalize decide (Srt xs) = r at *
      generalize xs.length = n at *
      clear hx
      go_enter Try.func33, Try.ntmps33
      go_wp2_with (first
        | (go_at_call 55; refine HA.mono ?_; rintro e w1 ⟨rfl, hb1⟩)
        | (go_at_call 56; refine (HR.out _ hb1).mono ?_; rintro e w2 ⟨rfl, hb2⟩))
      go_ret
      exact ⟨rfl, hb1.on hb2⟩
    · have e : stB xs = false := by simp [stB, hv]
      rw [decide_eq_false hv] at HA
      rw [e]
      clear e hv HR hx
      generalize xs.length = n at *
      go_enter Try.func33, Try.ntmps33
      go_wp2_with (first
        | (go_at_call 55; refine HA.mono ?_; rintro e w1 ⟨rfl, hb1⟩))
      go_ret
      exact ⟨rfl, hb1⟩
  · have e : stB xs = false := by simp [stB, hl]
    have hl' : ¬ (xs.length : Int) ≤ 16 := by omega
    have hd : decide ((xs.length : Int) ≤ 16) = false := by simpa using hl'
    rw [e]
    clear e HA HR hx
    generalize xs.length = n at *
    go_enter Try.func33, Try.ntmps33
    go_wp2
    go_ret
    exact ⟨rfl, Below.refl _ _⟩

end Go.Proofs.Ytghamcomjfholaa
