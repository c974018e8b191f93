
/-
  Contracts of the document's own answers for layer 8 (may they be; with one more, without one), at every list of ints: what they return, and that nothing that was there is turned.
-/
import Derived.Test.YtgopjjclobgekaaPassMath
import Derived.Test.YtgopjjclobgekaaIntRow
import Derived.Test.YtgopjjclobgekaaRefA
namespace Go.Proofs.Ytgopjjclobgekaa
open Go.ChangeShapes Go.WideShapes Go.ChangeAt Go.RowKit

set_option maxHeartbeats 400000 in
theorem rPaMay_core (p : Option Addr) (n c : Nat) (g : Nat → Int) (w : World) (hn : n ≤ 9223372036854775807)
    (hp : 0 < n → ∃ b off, p = some ⟨b, off, none⟩ ∧ ∀ j, j < n → w.cell? ⟨b, off + j, none⟩ = some (.int .i64 (g j))) (r s R : Bool) (hR : R = (r && (s && decide (n ≤ 16)))) (hr : r = true ↔ ∀ j, j + 1 < n → g j < g (j + 1))
    (hm : ∀ q, Calls Try.prog 32 #[.slice p n c] (w.drewN q) fun e w' => e = .returned (.bool s) ∧ w' = w.drewN q) :
    Calls Try.prog 40 #[.slice p n c] w fun e w' => e = .returned (.bool R) ∧ ∃ q, w' = w.drewN q := by
  replace hR := toHid hR
  go_enter Try.func40, Try.ntmps40
  go_wp2
  go_loopw [3] (fun i wr => ∃ k q : Nat, (k = 0 ∨ k + 1 ≤ n) ∧ i = .int .i64 ((k : Int) + 1) ∧ Hid (∀ j, j < k → g j < g (j + 1)) ∧ wr = w.drewN q) (fun i _ => n + 1 - (intOf i).toNat)
  case atStart => exact ⟨0, 0, .inl rfl, rfl, toHid (fun j hj => absurd hj (Nat.not_lt_zero _)), rfl⟩
  case round =>
    obtain ⟨k, q, hk, rfl, hj, rfl⟩ := hrel
    by_cases hlt : k + 1 < n
    · obtain ⟨b, off, rfl, h1⟩ := hp (by omega)
      have c1 : w.cell? ⟨b, off + k, none⟩ = some (.int .i64 (g k)) := h1 k (by omega)
      have c2 : w.cell? ⟨b, off + (k + 1), none⟩ = some (.int .i64 (g (k + 1))) := h1 (k + 1) hlt
      have hlt' : (k : Int) + 1 < (n : Int) := by omega
      have hlt2 : (k : Int) < (n : Int) := by omega
      clear h1 hp hm
      by_cases he : g k < g (k + 1)
      · have hj' : Hid (∀ j, j < k + 1 → g j < g (j + 1)) := toHid fun j hjk => by
          by_cases e : j = k
          · rw [e]; exact he
          · exact hj.out j (by omega)
        have he2 : ¬ g (k + 1) ≤ g k := by omega
        clear hj hr
        generalize g k = x at *
        generalize g (k + 1) = y at *
        go_wp2
        go_quiet (fail)
        go_wp2
        go_roundw
        case rel => exact ⟨k + 1, q + nq, .inr (by omega), by go_num, hj', rfl⟩
        case measure => simp [intOf]; omega
      · have hrf : r = false := by
          cases r with
          | false => rfl
          | true => exact absurd (hr.1 rfl k hlt) he
        subst hrf
        obtain rfl : R = false := by rw [hR.out]; rfl
        have he2 : g (k + 1) ≤ g k := by omega
        clear hj hr
        generalize g k = x at *
        generalize g (k + 1) = y at *
        go_wp2
        go_quiet (fail)
        go_wp2
        go_ret
        exact ⟨rfl, q + nq, by rw [World.drewN_drewN]⟩
    · have hrt : r = true := hr.2 fun j hjn => hj.out j (by omega)
      subst hrt
      have hlt' : ¬ (k : Int) + 1 < (n : Int) := by omega
      have hmq := hm q
      clear hm hp hr hj
      cases s with
      | false =>
        obtain rfl : R = false := by rw [hR.out]; rfl
        go_wp2_with (go_at_call 32; refine hmq.mono ?_; rintro e w' ⟨rfl, hw'⟩; subst w')
        go_ret
        exact ⟨rfl, q, rfl⟩
      | true =>
        by_cases hl : n ≤ 16
        · have hl1 : (n : Int) ≤ 16 := by omega
          obtain rfl : R = true := by rw [hR.out, decide_eq_true hl]; rfl
          have hl2 : decide ((n : Int) ≤ 16) = true := decide_eq_true hl1
          go_wp2_with (go_at_call 32; refine hmq.mono ?_; rintro e w' ⟨rfl, hw'⟩; subst w')
          go_ret
          exact ⟨rfl, q, rfl⟩
        · have hl1 : ¬ (n : Int) ≤ 16 := by omega
          obtain rfl : R = false := by rw [hR.out, decide_eq_false hl]; rfl
          have hl2 : decide ((n : Int) ≤ 16) = false := decide_eq_false hl1
          go_wp2_with (go_at_call 32; refine hmq.mono ?_; rintro e w' ⟨rfl, hw'⟩; subst w')
          go_ret
          exact ⟨rfl, q, rfl⟩

theorem rPaMay_any {lo hi : Nat} {w : World} {v : Value} {xs : List Int} (hx : RowI lo hi w v xs) :
    Calls Try.prog 40 #[v] w fun e w' => e = .returned (.bool (paB xs)) ∧ ∃ q, w' = w.drewN q := by
  have hm := fun q => placesMay_any (hx.drewN q)
  have e : paB xs = (decide (Up xs) && (plsB xs && decide (xs.length ≤ 16))) := by
    rw [Bool.eq_iff_iff, paB_iff]
    simp only [Bool.and_eq_true, decide_eq_true_iff]
    exact ⟨fun ⟨h1, h2, h3⟩ => ⟨h3, h2, h1⟩, fun ⟨h3, h2, h1⟩ => ⟨h1, h2, h3⟩⟩
  obtain ⟨p, c, rfl, hl, hc, hpx⟩ := hx
  unfold maxLen at hc
  refine rPaMay_core p xs.length c (fun j => xs.getD j 0) w (by omega) (fun h0 => ?_) _ _ _ e ?_ hm
  · obtain ⟨b, off, e, _, _, h3⟩ := hpx (by intro e; simp [e] at h0)
    exact ⟨b, off, e, fun j hj => (h3 j hj).1⟩
  · rw [decide_eq_true_iff, up_at]

set_option maxHeartbeats 1000000 in
theorem rWithout_yes {lo hi : Nat} {w : World} {v : Value} {xs : List Int} (hx : RowI lo hi w v xs) (hh : hi ≤ w.heap.size) (d : Int) (h : paB xs = true) (hd : plB d = true) :
    Calls Try.prog 54 #[v, .int .i64 d] w fun e w' => ∃ u, e = .returned (.tuple #[u, .int .i64 0]) ∧ RowI w.heap.size w'.heap.size w' u (xs.filter (neB d)) ∧ Below w.heap.size w w' := by
  have H1 := rPaMay_any hx
  rw [h] at H1
  have hl16 := (paB_iff.1 h).1
  obtain ⟨p, c, rfl, hn, hp⟩ := hx.ints hh
  clear hx h
  go_enter Try.func54, Try.ntmps54
  go_wp2_with (first
    | (go_at_call 40; refine H1.mono ?_; rintro e w1 ⟨rfl, q, hw1⟩; subst w1)
    | (go_at_call 31; refine (rPlaceMay_any _ _).mono ?_; rintro e w' ⟨rfl, hw'⟩; subst w'))
  clear H1
  go_loopw [6, 7] (fun v i wr => ∃ k : Nat, k ≤ xs.length ∧ i = .int .i64 k ∧ wr.ownsRow w.heap.size 3 1 v ((xs.take k).filter (neB d)).length (((xs.take k).filter (neB d)).map (Value.int .i64)) ∧ Below w.heap.size w wr) (fun _ i _ => xs.length - (intOf i).toNat)
  case atStart => exact ⟨0, Nat.zero_le _, rfl, World.ownsRow_nil _ _ _ _, (Below.refl _ _).onD q⟩
  case round =>
    obtain ⟨k, hk, rfl, hown, hbel⟩ := hrel
    by_cases hlt : k < xs.length
    · have hle := filter_upto (xs := xs) (p := neB d) k
      have hsu := filter_step (p := neB d) hlt
      have hsz := hbel.size
      have hlt' : (k : Int) < (xs.length : Int) := by omega
      obtain ⟨b, off, rfl, _, hb, hc⟩ := hp (by omega)
      have c1 := (hbel.cell (p := ⟨b, off + k, none⟩) hb).trans (hc k hlt)
      rw [getD_in _ _ hlt] at c1
      generalize (xs.take k).filter (neB d) = out at *
      generalize xs[k] = z at *
      clear hc hp
      by_cases hz : z = d
      · have e1 : ¬ neB d z = true := by simp [neB, hz]
        have hz2 : (z == d) = true := by simpa using hz
        rw [if_neg e1, List.append_nil] at hsu
        replace hsu := toHid hsu
        clear e1
        go_wp2
        go_roundw
        case rel => exact ⟨k + 1, by omega, by go_num, by rw [hsu.out]; exact hown, hbel⟩
        case measure => simp [intOf]; omega
      · have e1 : neB d z = true := by simp [neB, hz]
        have hz2 : (z == d) = false := by simpa using hz
        rw [if_pos e1] at hsu
        replace hsu := toHid hsu
        clear e1
        go_wp2_with (at_builtin; refine app_ints rfl (.tmp 28) (.tmp 33) rfl w.heap.size _ _ out rfl (hown.alloc _) ⟨wr.heap.size, 0, none⟩ 1 1 [z] rfl rfl (fun j hj => ?_) (by omega) (by simp; omega) ?_; · (match j, hj with | 0, _ => simp [Addr.add]))
        intro v' w1 hown' hgr hbel'
        have R : Hid (w1.ownsRow w.heap.size 3 1 v' (out ++ [z]).length ((out ++ [z]).map (Value.int .i64))) := toHid (by simpa using hown')
        clear hown' hgr hown
        go_wp2
        go_roundw
        case rel => exact ⟨k + 1, by omega, by go_num, by rw [hsu.out]; exact R.out, (hbel.alloc hsz _).trans hbel'⟩
        case measure => simp [intOf]; omega
    · obtain rfl : k = xs.length := by omega
      rw [List.take_length] at hown
      have hlt' : ¬ (xs.length : Int) < (xs.length : Int) := by omega
      go_wp2
      go_ret2
      exact ⟨_, rfl, RowI.of_owns hown, hbel⟩

theorem rWithout_any {lo hi : Nat} {w : World} {v : Value} {xs : List Int} (hx : RowI lo hi w v xs) (hh : hi ≤ w.heap.size) (d : Int) :
    Calls Try.prog 54 #[v, .int .i64 d] w fun e w' => ∃ u, e = .returned (.tuple #[u, .int .i64 (woE xs d)]) ∧ RowI w.heap.size w'.heap.size w' u (woL xs d) ∧ Below w.heap.size w w' := by
  have H1 := rPaMay_any hx
  rcases Bool.eq_false_or_eq_true (paB xs) with h | h
  · rcases Bool.eq_false_or_eq_true (plB d) with hd | hd
    · obtain ⟨e1, e2⟩ := wo_ok h hd
      rw [e1, e2]
      exact rWithout_yes hx hh d h hd
    · obtain ⟨e1, e2⟩ := wo_form (xs := xs) (.inr hd)
      rw [e1, e2]
      rw [h] at H1
      clear e1 e2 h hx
      go_enter Try.func54, Try.ntmps54
      go_wp2_with (first
        | (go_at_call 40; refine H1.mono ?_; rintro e w1 ⟨rfl, q, hw1⟩; subst w1)
        | (go_at_call 31; refine (rPlaceMay_any _ _).mono ?_; rintro e w' ⟨rfl, hw'⟩; subst w'))
      go_ret2
      exact ⟨_, rfl, RowI.nil0, (Below.refl _ w).onD q⟩
  · obtain ⟨e1, e2⟩ := wo_form (d := d) (.inl h)
    rw [e1, e2]
    rw [h] at H1
    clear e1 e2 h hx
    go_enter Try.func54, Try.ntmps54
    go_wp2_with (first
      | (go_at_call 40; refine H1.mono ?_; rintro e w1 ⟨rfl, q, hw1⟩; subst w1))
    go_ret2
    exact ⟨_, rfl, RowI.nil0, (Below.refl _ w).onD q⟩

end Go.Proofs.Ytgopjjclobgekaa
