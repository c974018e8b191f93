/-
  Contracts of package row's small functions: no place, the list without the base, the order by distance.
-/
import Derived.Test.YthfkoiodeipdeaaRing
import Derived.Test.YthfkoiodeipdeaaLaw0
import Derived.Test.YthfkoiodeipdeaaRowMath
namespace Go.Proofs.Ythfkoiodeipdeaa
open Go.ChangeShapes Go.WideShapes Go.ChangeAt Go.RowKit

theorem isNoPlace_any (x : Int) (w : World) :
    Calls Try.prog 30 #[.int .i64 x] w fun e w' => e = .returned (.bool (!plB x)) ∧ w' = w := by
  by_cases h : plB x = true
  · rw [h]
    go_enter Try.func30, Try.ntmps30
    go_wp2_with (go_at_call 35; refine (distance_yes _ _ _ h h).mono ?_; rintro e w' ⟨rfl, rfl⟩)
    go_ret
    exact ⟨rfl, rfl⟩
  · have h : plB x = false := by simpa using h
    rw [h]
    go_enter Try.func30, Try.ntmps30
    go_wp2_with (go_at_call 35; refine (distance_no _ _ _ (.inl h)).mono ?_; rintro e w' ⟨rfl, rfl⟩)
    go_ret
    exact ⟨rfl, rfl⟩

/-- Which of two numbers is less. -/
def cmpI (x y : Int) : Int := if x < y then -1 else if y < x then 1 else 0

theorem compare_any (x y : Int) (w : World) :
    Calls Try.prog 36 #[.int .i64 x, .int .i64 y] w fun e w' => e = .returned (.int .i64 (cmpI x y)) ∧ w' = w := by
  by_cases h1 : x < y
  · have e : cmpI x y = -1 := by simp [cmpI, h1]
    rw [e]
    clear e
    go_enter Try.func36, Try.ntmps36
    go_wp2
    go_ret
    exact ⟨rfl, rfl⟩
  · by_cases h2 : y < x
    · have e : cmpI x y = 1 := by simp [cmpI, h1, h2]
      rw [e]
      clear e
      go_enter Try.func36, Try.ntmps36
      go_wp2
      go_ret
      exact ⟨rfl, rfl⟩
    · have e : cmpI x y = 0 := by simp [cmpI, h1, h2]
      rw [e]
      clear e
      go_enter Try.func36, Try.ntmps36
      go_wp2
      go_ret
      exact ⟨rfl, rfl⟩

/-- The closure: two places by their distance from the base, which lies in its own cell. -/
theorem byDistance1_any (b x y : Int) (B : Nat) (w : World) (hb : plB b = true) (hx : plB x = true) (hy : plB y = true) (hc : w.cell? ⟨B, 0, none⟩ = some (.int .i64 b)) :
    Calls Try.prog 34 #[.int .i64 x, .int .i64 y, .pointer (some ⟨B, 0, none⟩)] w fun e w' => e = .returned (.int .i64 (cmpI (far b x) (far b y))) ∧ w' = w := by
  go_enter Try.func34, Try.ntmps34
  go_wp2_with (first | (go_at_call 35; refine (distance_yes _ _ _ (by assumption) (by assumption)).mono ?_; rintro e w' ⟨rfl, hw'⟩; subst w') | (go_at_call 36; refine (compare_any _ _ _).mono ?_; rintro e w' ⟨rfl, hw'⟩; subst w'))
  go_ret
  exact ⟨rfl, rfl⟩

theorem byDistance_any (b : Int) (w : World) :
    Calls Try.prog 23 #[.int .i64 b] w fun e w' => e = .returned (.func (.func 34) #[] #[.pointer (some ⟨w.heap.size, 0, none⟩)]) ∧ w' = w.alloc (.cells #[.int .i64 b] 3) := by
  go_enter Try.func23, Try.ntmps23
  go_wp2
  go_ret
  exact ⟨rfl, rfl⟩

def others (b : Int) (xs : List Int) : List Int := xs.filter fun x => decide (x ≠ b)
theorem others_take (b : Int) (xs : List Int) (k : Nat) (hk : k < xs.length) : others b (xs.take (k + 1)) = others b (xs.take k) ++ (if xs.getD k 0 ≠ b then [xs.getD k 0] else []) := by
  unfold others
  rw [List.take_succ_eq_append_getElem hk, List.filter_append]
  have e : xs.getD k 0 = xs[k] := by simp [List.getD, List.getElem?_eq_getElem hk]
  rw [e]
  by_cases h : xs[k] ≠ b <;> simp [h]
theorem others_le (b : Int) (xs : List Int) : (others b xs).length ≤ xs.length := List.length_filter_le _ _

set_option maxHeartbeats 400000 in
theorem without_any {lo hi : Nat} {w : World} {v : Value} {xs : List Int} (hv : RowI lo hi w v xs) (hhi : hi ≤ w.heap.size) (b : Int) (hl : xs.length ≤ 64) :
    Calls Try.prog 21 #[.int .i64 b, v] w fun e w' => ∃ u, e = .returned u ∧ w'.ownsRow w.heap.size 3 1 u (others b xs).length ((others b xs).map (Value.int .i64)) ∧ (∃ g c, u = .slice (some ⟨g, 0, none⟩) (others b xs).length c) ∧ Below w.heap.size w w' := by
  obtain ⟨p, c, rfl, _, hc, hpx⟩ := hv
  obtain ⟨i0, hi, hz0, hz1, hz2⟩ := info_parts Try.info3
  have hp : 0 < xs.length → ∃ b off, p = some ⟨b, off, none⟩ ∧ b < w.heap.size ∧ ∀ j, j < xs.length → w.cell? ⟨b, off + j, none⟩ = some (.int .i64 (xs.getD j 0)) := by
    intro h0
    obtain ⟨b, off, e, h1, h2, h3⟩ := hpx (by intro e; simp [e] at h0)
    exact ⟨b, off, e, by omega, fun j hj => (h3 j hj).1⟩
  clear hpx
  obtain ⟨n, hn⟩ : ∃ n, xs.length = n := ⟨_, rfl⟩
  have HN : Hid (xs.length = n) := hn
  rw [hn] at hl hp ⊢
  clear hn
  go_enter Try.func21, Try.ntmps21
  go_wp2_with (at_make; refine wpList_make_own _ rfl _ _ 22 rfl w.heap.size 3 i0 (.int .i64 0) 1 Try.underlying22 hi hz0 hz1 _ _ _ n rfl rfl rfl (by rw [hz2]; omega) (by unfold maxLen; omega) (Nat.le_refl _) ?_; intro w1 hown1 hgr1)
  have hbel1 : Below w.heap.size w w1 := (Below.refl _ w).grown hgr1 (Nat.le_refl _) (fun j hj => by cases hj)
  clear hgr1
  go_loopw [5, 13] (fun v i wr => ∃ k : Nat, k ≤ n ∧ i = .int .i64 k ∧ wr.ownsRow w.heap.size 3 1 v (others b (xs.take k)).length ((others b (xs.take k)).map (Value.int .i64)) ∧ (∃ g c, v = .slice (some ⟨g, 0, none⟩) (others b (xs.take k)).length c) ∧ Below w.heap.size w wr) (fun _ i _ => n - (intOf i).toNat)
  case atStart => exact ⟨0, Nat.zero_le _, rfl, hown1, ⟨_, _, rfl⟩, hbel1⟩
  case round =>
    clear hown1 hbel1
    obtain ⟨k, hk, rfl, hown, ⟨g, cp, rfl⟩, hbel⟩ := hrel
    by_cases hlt : k < n
    · have hle : (others b (xs.take k)).length ≤ k := Nat.le_trans (others_le b _) (List.length_take_le _ _)
      have hsu := others_take b xs k (by have := HN.out; omega)
      have hsz := hbel.size
      obtain ⟨bl, off, rfl, hbl, h1⟩ := hp (by omega)
      have c1 : wr.cell? ⟨bl, off + k, none⟩ = some (.int .i64 (xs.getD k 0)) := (hbel.cell (p := ⟨bl, off + k, none⟩) hbl).trans (h1 k (by have := HN.out; omega))
      obtain ⟨y, hy⟩ : ∃ y, xs.getD k 0 = y := ⟨_, rfl⟩
      rw [hy] at c1 hsu
      have hlt' : (k : Int) < (n : Int) := by omega
      clear hp h1 hy
      by_cases he : y = b
      · have HS : Hid (others b (xs.take (k + 1)) = others b (xs.take k)) := by rw [if_neg (by simpa using he), List.append_nil] at hsu; exact hsu
        clear hsu
        go_wp2
        go_roundw
        case rel => exact ⟨k + 1, by omega, by go_num, by rw [HS.out]; exact hown, by rw [HS.out]; exact ⟨_, _, rfl⟩, hbel⟩
        case measure => simp [intOf]; omega
      · have HS : Hid (others b (xs.take (k + 1)) = others b (xs.take k) ++ [y]) := by rw [if_pos he] at hsu; exact hsu
        clear hsu
        go_wp2_with (at_builtin; refine app_ints rfl (.tmp 20) (.tmp 22) rfl w.heap.size _ _ (others b (xs.take k)) rfl (hown.alloc _) ⟨wr.heap.size, 0, none⟩ 1 1 [y] rfl rfl (fun j hj => ?_) (by omega) (by simp; omega) ?_; · (match j, hj with | 0, _ => simp [Addr.add]))
        intro v' w1 hown' hgr hbel'
        have R : w1.ownsRow w.heap.size 3 1 v' (others b (xs.take (k + 1))).length ((others b (xs.take (k + 1))).map (Value.int .i64)) ∧ (∃ g c, v' = .slice (some ⟨g, 0, none⟩) (others b (xs.take (k + 1))).length c) ∧ Below w.heap.size w w1 := by
          rw [HS.out]
          refine ⟨by simpa using hown', ?_, (hbel.alloc hsz _).trans hbel'⟩
          rcases hown'.2 with ⟨_, h0⟩ | ⟨g', c', _, h0, _⟩
          · omega
          · exact ⟨g', c', by simpa using h0⟩
        clear hown' hgr hbel' hown
        go_wp2
        go_roundw
        case rel => exact ⟨k + 1, by omega, by go_num, R.1, R.2.1, R.2.2⟩
        case measure => simp [intOf]; omega
    · have hkn : xs.take k = xs := List.take_of_length_le (by have := HN.out; omega)
      rw [hkn] at hown ⊢
      clear hkn hp
      go_wp2
      go_ret
      exact ⟨_, rfl, hown, ⟨_, _, rfl⟩, hbel⟩

end Go.Proofs.Ythfkoiodeipdeaa
