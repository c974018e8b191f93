
/-
  Contracts of package store's small functions (where a key stands; may all be; do they rise), at every list of items: what they return, and that no old memory has turned.
-/
import Derived.Test.YtekefbhpkpoghaaItem
import Derived.Test.YtekefbhpkpoghaaItemRow
import Derived.Test.YtekefbhpkpoghaaStoreMath
import Derived.Test.YtekefbhpkpoghaaBox
import Derived.Test.YtekefbhpkpoghaaCalm
import Derived.Test.YtekefbhpkpoghaaCmp
import Derived.Test.YtekefbhpkpoghaaStoreRef
namespace Go.Proofs.Ytekefbhpkpoghaa
open Go.ChangeShapes Go.WideShapes Go.ChangeAt Go.RowKit

/-- The keys rise. -/
theorem srt_le {xs : List It} (h : Srt xs) (i j : Nat) (hij : i ≤ j) (hj : j < xs.length) : (xs.getD i ⟨0, 0, 0, 0, false⟩).k ≤ (xs.getD j ⟨0, 0, 0, 0, false⟩).k := by
  have hi : i < xs.length := by omega
  rw [show xs.getD i ⟨0, 0, 0, 0, false⟩ = xs[i] by simp [List.getD, List.getElem?_eq_getElem hi], show xs.getD j ⟨0, 0, 0, 0, false⟩ = xs[j] by simp [List.getD, List.getElem?_eq_getElem hj]]
  rcases Nat.lt_or_ge i j with h1 | h1
  · exact Int.le_of_lt (List.pairwise_iff_getElem.1 h i j hi hj h1)
  · obtain rfl : i = j := by omega
    exact Int.le_refl _

theorem iMay_yes (k c u x : Int) (g : Bool) (w : World) (h : itB ⟨k, c, u, x, g⟩ = true) :
    Calls Try.prog 29 #[.agg #[.int .i64 k, .int .i64 c, .int .i64 u, .int .i64 x, .bool g]] w fun e w' => e = .returned (.bool true) ∧ Below w.heap.size w w' := h ▸ iMay_any k c u x g w
theorem iMay_no (k c u x : Int) (g : Bool) (w : World) (h : itB ⟨k, c, u, x, g⟩ = false) :
    Calls Try.prog 29 #[.agg #[.int .i64 k, .int .i64 c, .int .i64 u, .int .i64 x, .bool g]] w fun e w' => e = .returned (.bool false) ∧ Below w.heap.size w w' := h ▸ iMay_any k c u x g w

set_option maxHeartbeats 1000000 in
theorem sAll_core (p : Option Addr) (n c : Nat) (g : Nat → It) (w : World) (hn : n ≤ 9223372036854775807)
    (hp : 0 < n → ∃ b off, p = some ⟨b, off, none⟩ ∧ b < w.heap.size ∧ ∀ j, j < n → ItAt w b (off + j * 5) (g j)) (r : Bool) (hr : r = true ↔ ∀ j, j < n → itB (g j) = true) :
    Calls Try.prog 23 #[.slice p n c] w fun e w' => e = .returned (.bool r) ∧ Below w.heap.size w w' := by
  go_enter Try.func23, Try.ntmps23
  go_wp2
  go_loopw [7] (fun i wr => ∃ k : Nat, k ≤ n ∧ i = .int .i64 k ∧ Hid (∀ j, j < k → itB (g j) = true) ∧ Below w.heap.size w wr) (fun i _ => n - (intOf i).toNat)
  case atStart => exact ⟨0, Nat.zero_le _, rfl, toHid (fun j hj => absurd hj (Nat.not_lt_zero _)), Below.refl _ _⟩
  case round =>
    obtain ⟨k, hk, rfl, hj, hbel⟩ := hrel
    by_cases hlt : k < n
    · obtain ⟨b, off, rfl, hb, h1⟩ := hp (by omega)
      obtain ⟨c1, c2, c3, c4, c5⟩ := (h1 k hlt).below hbel hb
      have hlt' : (k : Int) < (n : Int) := by omega
      rcases Bool.eq_false_or_eq_true (itB (g k)) with hi | hi
      · have hj' : Hid (∀ j, j < k + 1 → itB (g j) = true) := toHid fun j hjk => by
          by_cases e : j = k
          · rw [e]; exact hi
          · exact hj.out j (by omega)
        clear hj hr h1 hp
        generalize g k = z at c1 c2 c3 c4 c5 hi
        obtain ⟨zk, zc, zu, zx, zg⟩ := z
        dsimp only at c1 c2 c3 c4 c5
        go_wp2_with (go_at_call 29; refine (iMay_yes _ _ _ _ _ _ hi).mono ?_; rintro e w1 ⟨rfl, hb1⟩)
        go_roundw
        case rel => exact ⟨k + 1, by omega, by go_num, hj', by first | exact hbel.on hb1 | exact (hbel.onA _).on hb1⟩
        case measure => simp [intOf]; omega
      · have hrf : r = false := by
          cases r with
          | false => rfl
          | true => have := hr.1 rfl k hlt; rw [hi] at this; cases this
        subst hrf
        clear hj hr h1 hp
        generalize g k = z at c1 c2 c3 c4 c5 hi
        obtain ⟨zk, zc, zu, zx, zg⟩ := z
        dsimp only at c1 c2 c3 c4 c5
        go_wp2_with (go_at_call 29; refine (iMay_no _ _ _ _ _ _ hi).mono ?_; rintro e w1 ⟨rfl, hb1⟩)
        go_ret
        exact ⟨rfl, by first | exact hbel.on hb1 | exact (hbel.onA _).on hb1⟩
    · have hrt : r = true := hr.2 fun j hjn => hj.out j (by omega)
      subst hrt
      go_wp2
      go_ret
      exact ⟨rfl, hbel⟩

set_option maxHeartbeats 1000000 in
theorem sRis_core (p : Option Addr) (n c : Nat) (g : Nat → It) (w : World) (hn : n ≤ 9223372036854775807)
    (hp : 0 < n → ∃ b off, p = some ⟨b, off, none⟩ ∧ b < w.heap.size ∧ ∀ j, j < n → ItAt w b (off + j * 5) (g j)) (r : Bool) (hr : r = true ↔ ∀ j, j + 1 < n → (g j).k < (g (j + 1)).k) :
    Calls Try.prog 24 #[.slice p n c] w fun e w' => e = .returned (.bool r) ∧ Below w.heap.size w w' := by
  go_enter Try.func24, Try.ntmps24
  go_wp2
  go_loopw [3] (fun i wr => ∃ k : Nat, (k = 0 ∨ k + 1 ≤ n) ∧ i = .int .i64 ((k : Int) + 1) ∧ Hid (∀ j, j < k → (g j).k < (g (j + 1)).k) ∧ Below w.heap.size w wr) (fun i _ => n - (intOf i).toNat)
  case atStart => exact ⟨0, .inl rfl, rfl, toHid (fun j hj => absurd hj (Nat.not_lt_zero _)), Below.refl _ _⟩
  case round =>
    obtain ⟨k, hk, rfl, hj, hbel⟩ := hrel
    by_cases hlt : k + 1 < n
    · obtain ⟨b, off, rfl, hb, h1⟩ := hp (by omega)
      have c1 := ((h1 k (by omega)).below hbel hb).1
      have c2 := ((h1 (k + 1) hlt).below hbel hb).1
      have hlt1 : (k : Int) + 1 < (n : Int) := by omega
      have hlt2 : (k : Int) < (n : Int) := by omega
      have hk1 : (0 : Int) ≤ (k : Int) + 1 := by omega
      by_cases hlk : (g k).k < (g (k + 1)).k
      · have hj' : Hid (∀ j, j < k + 1 → (g j).k < (g (j + 1)).k) := toHid fun j hjk => by
          by_cases e : j = k
          · rw [e]; exact hlk
          · exact hj.out j (by omega)
        clear hj hr h1 hp
        generalize (g k).k = y at *
        generalize (g (k + 1)).k = z at *
        go_wp2
        go_quiet (fail)
        go_wp2
        go_roundw
        case rel => exact ⟨k + 1, by omega, by go_num, hj', hbel.onD _⟩
        case measure => simp [intOf]; omega
      · have hrf : r = false := by
          cases r with
          | false => rfl
          | true => exact absurd (hr.1 rfl k hlt) hlk
        subst hrf
        clear hj hr h1 hp
        generalize (g k).k = y at *
        generalize (g (k + 1)).k = z at *
        go_wp2
        go_quiet (fail)
        go_wp2
        go_ret
        exact ⟨rfl, hbel.onD _⟩
    · have hrt : r = true := hr.2 fun j hjn => hj.out j (by omega)
      subst hrt
      have hlt' : ¬ (k : Int) + 1 < (n : Int) := by omega
      go_wp2
      go_ret
      exact ⟨rfl, hbel⟩

end Go.Proofs.Ytekefbhpkpoghaa
