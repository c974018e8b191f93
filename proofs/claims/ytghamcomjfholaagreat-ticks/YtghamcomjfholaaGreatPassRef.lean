
/-
  Plain facts on numbers that wrap round.
-/
import Derived.Test.YtghamcomjfholaaGreatOnly
import Derived.Test.YtghamcomjfholaaGreatRingRef
import Derived.Laws.BitsLemmas
import Derived.Test.YtghamcomjfholaaGreatIntRow
import Derived.Test.YtghamcomjfholaaGreatPassMath
namespace Go.Proofs.YtghamcomjfholaaGreat
open Go.ChangeShapes Go.WideShapes Go.ChangeAt Go.RowKit

theorem w64_in (n : Int) (h : 0 ≤ n ∧ n ≤ 9223372036854775807) : wrap64 n = n := by unfold wrap64; omega
end Go.Proofs.YtghamcomjfholaaGreat

namespace Go.Proofs.YtghamcomjfholaaGreat
open Go.ChangeShapes Go.WideShapes Go.ChangeAt Go.RowKit

set_option maxHeartbeats 400000 in
theorem has_any {lo hi : Nat} {w : World} {v : Value} {xs : List Int} (hv : RowI lo hi w v xs) (x : Int) :
    Calls Tryz.prog 75 #[v, .int .i64 x] w fun e w' => e = .returned (.bool (decide (x ∈ xs))) ∧ w' = w := by
  obtain ⟨p, c, rfl, hl, hc, hpx⟩ := hv
  unfold maxLen at hc
  have hn : xs.length ≤ 9223372036854775807 := by omega
  have hp : 0 < xs.length → ∃ b off, p = some ⟨b, off, none⟩ ∧ ∀ j, j < xs.length → w.cell? ⟨b, off + j, none⟩ = some (.int .i64 (xs.getD j 0)) := by
    intro h0
    obtain ⟨b, off, e, h1, _, h3⟩ := hpx (by intro e; simp [e] at h0)
    exact ⟨b, off, e, fun j hj => (h3 j hj).1⟩
  have hin : (decide (x ∈ xs)) = true ↔ ∃ j, j < xs.length ∧ xs.getD j 0 = x := by
    rw [decide_eq_true_iff, List.mem_iff_getElem]
    constructor
    · rintro ⟨j, hj, e⟩; exact ⟨j, hj, by simp [List.getD, List.getElem?_eq_getElem hj, e]⟩
    · rintro ⟨j, hj, e⟩; exact ⟨j, hj, by simpa [List.getD, List.getElem?_eq_getElem hj] using e⟩
  generalize decide (x ∈ xs) = r at *
  obtain ⟨g, hg⟩ : ∃ g : Nat → Int, ∀ j, xs.getD j 0 = g j := ⟨_, fun _ => rfl⟩
  simp only [hg] at hp hin
  clear hpx hg hl hc
  generalize xs.length = n at *
  go_enter Tryz.func75, Tryz.ntmps75
  go_wp2
  go_loop [5] (fun i => ∃ k : Nat, k ≤ n ∧ i = .int .i64 k ∧ (∀ j, j < k → g j ≠ x)) (fun i => n - (intOf i).toNat)
  case atStart => exact ⟨0, Nat.zero_le _, rfl, fun j hj => absurd hj (Nat.not_lt_zero _)⟩
  case round =>
    obtain ⟨k, hk, rfl, hj⟩ := hrel
    by_cases hlt : k < n
    · obtain ⟨b, off, rfl, h1⟩ := hp (by omega)
      have c1 : w.cell? ⟨b, off + k, none⟩ = some (.int .i64 (g k)) := h1 k hlt
      have hlt' : (k : Int) < (n : Int) := by omega
      clear h1 hp
      by_cases he : g k = x
      · have hrt : r = true := hin.2 ⟨k, hlt, he⟩
        subst hrt
        clear hin hj
        go_wp2
        go_ret
        exact ⟨rfl, rfl⟩
      · have hj' : ∀ j, j < k + 1 → g j ≠ x := fun j hjk => by
          by_cases e : j = k
          · rw [e]; exact he
          · exact hj j (by omega)
        clear hin hj
        go_wp2
        go_round
        case rel => exact ⟨k + 1, by omega, by go_num, hj'⟩
        case measure => simp [intOf]; omega
    · have hrf : r = false := by
        cases hr : r with
        | false => rfl
        | true =>
          obtain ⟨j, h1, h2⟩ := hin.1 hr
          exact absurd h2 (hj j (by omega))
      subst hrf
      clear hin hj hp
      go_wp2
      go_ret
      exact ⟨rfl, rfl⟩
set_option maxHeartbeats 400000 in
theorem placesMay_any {lo hi : Nat} {w : World} {v : Value} {xs : List Int} (hv : RowI lo hi w v xs) :
    Calls Tryz.prog 94 #[v] w fun e w' => e = .returned (.bool (plsB xs)) ∧ w' = w := by
  obtain ⟨p, c, rfl, hl, hc, hpx⟩ := hv
  unfold maxLen at hc
  have hn : xs.length ≤ 9223372036854775807 := by omega
  have hp : 0 < xs.length → ∃ b off, p = some ⟨b, off, none⟩ ∧ ∀ j, j < xs.length → w.cell? ⟨b, off + j, none⟩ = some (.int .i64 (xs.getD j 0)) := by
    intro h0
    obtain ⟨b, off, e, h1, _, h3⟩ := hpx (by intro e; simp [e] at h0)
    exact ⟨b, off, e, fun j hj => (h3 j hj).1⟩
  have hin : plsB xs = true ↔ ∀ j, j < xs.length → plB (xs.getD j 0) = true := by
    constructor
    · intro h j hj
      have := plsB_mem h xs[j] (List.getElem_mem hj)
      simpa [List.getD, List.getElem?_eq_getElem hj] using this
    · intro h
      refine plsB_mk fun x hx => ?_
      obtain ⟨j, hj, rfl⟩ := List.mem_iff_getElem.1 hx
      have := h j hj
      simpa [List.getD, List.getElem?_eq_getElem hj] using this
  generalize plsB xs = r at *
  obtain ⟨g, hg⟩ : ∃ g : Nat → Int, ∀ j, xs.getD j 0 = g j := ⟨_, fun _ => rfl⟩
  simp only [hg] at hp hin
  clear hpx hg hl hc
  generalize xs.length = n at *
  go_enter Tryz.func94, Tryz.ntmps94
  go_wp2
  go_loop [3] (fun i => ∃ k : Nat, k ≤ n ∧ i = .int .i64 k ∧ (∀ j, j < k → plB (g j) = true)) (fun i => n - (intOf i).toNat)
  case atStart => exact ⟨0, Nat.zero_le _, rfl, fun j hj => absurd hj (Nat.not_lt_zero _)⟩
  case round =>
    obtain ⟨k, hk, rfl, hj⟩ := hrel
    by_cases hlt : k < n
    · obtain ⟨b, off, rfl, h1⟩ := hp (by omega)
      have c1 : w.cell? ⟨b, off + k, none⟩ = some (.int .i64 (g k)) := h1 k hlt
      have hlt' : (k : Int) < (n : Int) := by omega
      clear h1 hp
      by_cases he : plB (g k) = true
      · have hj' : ∀ j, j < k + 1 → plB (g j) = true := fun j hjk => by
          by_cases e : j = k
          · rw [e]; exact he
          · exact hj j (by omega)
        clear hin hj
        go_wp2_with (go_at_call 72; refine (rPlaceMay_any _ _).mono ?_; rintro e w' ⟨rfl, rfl⟩)
        go_round
        case rel => exact ⟨k + 1, by omega, by go_num, hj'⟩
        case measure => simp [intOf]; omega
      · have hrf : r = false := by
          cases hr : r with
          | false => rfl
          | true => exact absurd (hin.1 hr k hlt) he
        have he : plB (g k) = false := by simpa using he
        subst hrf
        clear hin hj
        go_wp2_with (go_at_call 72; refine (rPlaceMay_any _ _).mono ?_; rintro e w' ⟨rfl, rfl⟩)
        go_ret
        exact ⟨rfl, rfl⟩
    · have hrt : r = true := hin.2 fun j hjn => hj j (by omega)
      subst hrt
      clear hin hj hp
      go_wp2
      go_ret
      exact ⟨rfl, rfl⟩

end Go.Proofs.YtghamcomjfholaaGreat

namespace Go.Proofs.YtghamcomjfholaaGreat
open Go.ChangeShapes Go.WideShapes Go.ChangeAt Go.RowKit

set_option maxHeartbeats 400000 in
theorem rPaMay_core (p : Option Addr) (n c : Nat) (g : Nat → Int) (w : World) (hn : n ≤ 9223372036854775807)
    (hp : 0 < n → ∃ b off, p = some ⟨b, off, none⟩ ∧ ∀ j, j < n → w.cell? ⟨b, off + j, none⟩ = some (.int .i64 (g j))) (r s R : Bool) (hR : R = (r && (s && decide (n ≤ 16)))) (hr : r = true ↔ ∀ j, j + 1 < n → g j < g (j + 1))
    (hm : ∀ q, Calls Tryz.prog 94 #[.slice p n c] (w.drewN q) fun e w' => e = .returned (.bool s) ∧ w' = w.drewN q) :
    Calls Tryz.prog 77 #[.slice p n c] w fun e w' => e = .returned (.bool R) ∧ ∃ q, w' = w.drewN q := by
  replace hR := toHid hR
  go_enter Tryz.func77, Tryz.ntmps77
  go_wp2
  go_loopw [3] (fun i wr => ∃ k q : Nat, (k = 0 ∨ k + 1 ≤ n) ∧ i = .int .i64 ((k : Int) + 1) ∧ Hid (∀ j, j < k → g j < g (j + 1)) ∧ wr = w.drewN q) (fun i _ => n + 1 - (intOf i).toNat)
  case atStart => exact ⟨0, 0, .inl rfl, rfl, toHid (fun j hj => absurd hj (Nat.not_lt_zero _)), rfl⟩
  case round =>
    obtain ⟨k, q, hk, rfl, hj, rfl⟩ := hrel
    by_cases hlt : k + 1 < n
    · obtain ⟨b, off, rfl, h1⟩ := hp (by omega)
      have c1 : w.cell? ⟨b, off + k, none⟩ = some (.int .i64 (g k)) := h1 k (by omega)
      have c2 : w.cell? ⟨b, off + (k + 1), none⟩ = some (.int .i64 (g (k + 1))) := h1 (k + 1) hlt
      have hlt' : (k : Int) + 1 < (n : Int) := by omega
      have hlt2 : (k : Int) < (n : Int) := by omega
      clear h1 hp hm
      by_cases he : g k < g (k + 1)
      · have hj' : Hid (∀ j, j < k + 1 → g j < g (j + 1)) := toHid fun j hjk => by
          by_cases e : j = k
          · rw [e]; exact he
          · exact hj.out j (by omega)
        have he2 : ¬ g (k + 1) ≤ g k := by omega
        clear hj hr
        generalize g k = x at *
        generalize g (k + 1) = y at *
        go_wp2
        go_quiet (fail)
        go_wp2
        go_roundw
        case rel => exact ⟨k + 1, q + nq, .inr (by omega), by go_num, hj', rfl⟩
        case measure => simp [intOf]; omega
      · have hrf : r = false := by
          cases r with
          | false => rfl
          | true => exact absurd (hr.1 rfl k hlt) he
        subst hrf
        obtain rfl : R = false := by rw [hR.out]; rfl
        have he2 : g (k + 1) ≤ g k := by omega
        clear hj hr
        generalize g k = x at *
        generalize g (k + 1) = y at *
        go_wp2
        go_quiet (fail)
        go_wp2
        go_ret
        exact ⟨rfl, q + nq, by rw [World.drewN_drewN]⟩
    · have hrt : r = true := hr.2 fun j hjn => hj.out j (by omega)
      subst hrt
      have hlt' : ¬ (k : Int) + 1 < (n : Int) := by omega
      have hmq := hm q
      clear hm hp hr hj
      cases s with
      | false =>
        obtain rfl : R = false := by rw [hR.out]; rfl
        go_wp2_with (go_at_call 94; refine hmq.mono ?_; rintro e w' ⟨rfl, hw'⟩; subst w')
        go_ret
        exact ⟨rfl, q, rfl⟩
      | true =>
        by_cases hl : n ≤ 16
        · have hl1 : (n : Int) ≤ 16 := by omega
          obtain rfl : R = true := by rw [hR.out, decide_eq_true hl]; rfl
          have hl2 : decide ((n : Int) ≤ 16) = true := decide_eq_true hl1
          go_wp2_with (go_at_call 94; refine hmq.mono ?_; rintro e w' ⟨rfl, hw'⟩; subst w')
          go_ret
          exact ⟨rfl, q, rfl⟩
        · have hl1 : ¬ (n : Int) ≤ 16 := by omega
          obtain rfl : R = false := by rw [hR.out, decide_eq_false hl]; rfl
          have hl2 : decide ((n : Int) ≤ 16) = false := decide_eq_false hl1
          go_wp2_with (go_at_call 94; refine hmq.mono ?_; rintro e w' ⟨rfl, hw'⟩; subst w')
          go_ret
          exact ⟨rfl, q, rfl⟩

theorem rPaMay_any {lo hi : Nat} {w : World} {v : Value} {xs : List Int} (hx : RowI lo hi w v xs) :
    Calls Tryz.prog 77 #[v] w fun e w' => e = .returned (.bool (paB xs)) ∧ ∃ q, w' = w.drewN q := by
  have hm := fun q => placesMay_any (hx.drewN q)
  have e : paB xs = (decide (Up xs) && (plsB xs && decide (xs.length ≤ 16))) := by
    rw [Bool.eq_iff_iff, paB_iff]
    simp only [Bool.and_eq_true, decide_eq_true_iff]
    exact ⟨fun ⟨h1, h2, h3⟩ => ⟨h3, h2, h1⟩, fun ⟨h3, h2, h1⟩ => ⟨h1, h2, h3⟩⟩
  obtain ⟨p, c, rfl, hl, hc, hpx⟩ := hx
  unfold maxLen at hc
  refine rPaMay_core p xs.length c (fun j => xs.getD j 0) w (by omega) (fun h0 => ?_) _ _ _ e ?_ hm
  · obtain ⟨b, off, e, _, _, h3⟩ := hpx (by intro e; simp [e] at h0)
    exact ⟨b, off, e, fun j hj => (h3 j hj).1⟩
  · rw [decide_eq_true_iff, up_at]

set_option maxHeartbeats 1000000 in
set_option maxRecDepth 1000000 in
theorem rWith_yes {lo hi : Nat} {w : World} {v : Value} {xs : List Int} (hx : RowI lo hi w v xs) (hh : hi ≤ w.heap.size) (d : Int) (h : paB xs = true) (hd : plB d = true) :
    Calls Tryz.prog 49 #[v, .int .i64 d] w fun e w' => ∃ u, e = .returned (.tuple #[u, .int .i64 (wiE xs d)]) ∧ RowI w.heap.size w'.heap.size w' u (wiL xs d) ∧ Below w.heap.size w w' := by
  have H1 := rPaMay_any hx
  rw [h] at H1
  have HH : Hid (∀ wr : World, Below w.heap.size w wr → ∀ x, Calls Tryz.prog 75 #[v, .int .i64 x] wr fun e w' => e = .returned (.bool (decide (x ∈ xs))) ∧ w' = wr) :=
    toHid fun wr hb x => has_any (hx.below hb hh) x
  have HA := toHid (upTo_all h hd)
  have HOK : Hid ((wiI xs d).length ≤ 16 → wiL xs d = wiI xs d ∧ wiE xs d = 0) := toHid (wi_ok h hd)
  have HNO : Hid (¬ (wiI xs d).length ≤ 16 → wiL xs d = [] ∧ wiE xs d = 801) := toHid (wi_full h hd)
  clear hx h
  go_enter Tryz.func49, Tryz.ntmps49
  go_wp2_with (first
    | (go_at_call 77; refine H1.mono ?_; rintro e w1 ⟨rfl, q, hw1⟩; subst w1)
    | (go_at_call 72; refine (rPlaceMay_any _ _).mono ?_; rintro e w' ⟨rfl, hw'⟩; subst w'))
  clear H1
  go_loopw [6, 7] (fun v i wr => ∃ k : Nat, k ≤ 256 ∧ i = .int .i64 k ∧ wr.ownsRow w.heap.size 3 1 v (upTo xs d k).length ((upTo xs d k).map (Value.int .i64)) ∧ Below w.heap.size w wr) (fun _ i _ => 256 - (intOf i).toNat)
  case atStart => exact ⟨0, Nat.zero_le _, rfl, World.ownsRow_nil _ _ _ _, (Below.refl _ _).onD q⟩
  case round =>
    obtain ⟨k, hk, rfl, hown, hbel⟩ := hrel
    by_cases hlt : k < 256
    · have hle := upTo_le xs d k
      have hsu := upTo_succ xs d k
      have hsz := hbel.size
      have hlt' : (k : Int) < 256 := by omega
      have hh1 := HH.out _ hbel (k : Int)
      by_cases hin : (k : Int) = d ∨ (k : Int) ∈ xs
      · rw [if_pos hin] at hsu
        replace hsu := toHid hsu
        by_cases hkd : (k : Int) = d
        · have hkd2 : ((k : Int) == d) = true := by simpa using hkd
          replace hkd := toHid hkd
          clear hin hh1
          go_wp2_with (at_builtin; refine app_ints rfl (.tmp 28) (.tmp 30) rfl w.heap.size _ _ (upTo xs d k) rfl (hown.alloc _) ⟨wr.heap.size, 0, none⟩ 1 1 [(k : Int)] rfl rfl (fun j hj => ?_) (by omega) (by simp; omega) ?_; · (match j, hj with | 0, _ => simp [Addr.add]))
          intro v' w1 hown' hgr hbel'
          have R : Hid (w1.ownsRow w.heap.size 3 1 v' (upTo xs d k ++ [(k : Int)]).length ((upTo xs d k ++ [(k : Int)]).map (Value.int .i64))) := toHid (by simpa using hown')
          clear hown' hgr hown
          go_wp2
          go_roundw
          case rel => exact ⟨k + 1, by omega, by go_num, by rw [hsu.out]; exact R.out, (hbel.alloc hsz _).trans hbel'⟩
          case measure => simp [intOf]; omega
        · have hkd2 : ((k : Int) == d) = false := by simpa using hkd
          rw [decide_eq_true (hin.resolve_left hkd)] at hh1
          clear hin
          go_wp2_with (first
            | (go_at_call 75; refine hh1.mono ?_; rintro e w' ⟨rfl, hw'⟩; subst w')
            | (at_builtin; refine app_ints rfl (.tmp 28) (.tmp 30) rfl w.heap.size _ _ (upTo xs d k) rfl (hown.alloc _) ⟨wr.heap.size, 0, none⟩ 1 1 [(k : Int)] rfl rfl (fun j hj => ?_) (by omega) (by simp; omega) ?_; · (match j, hj with | 0, _ => simp [Addr.add])))
          intro v' w1 hown' hgr hbel'
          have R : Hid (w1.ownsRow w.heap.size 3 1 v' (upTo xs d k ++ [(k : Int)]).length ((upTo xs d k ++ [(k : Int)]).map (Value.int .i64))) := toHid (by simpa using hown')
          clear hown' hgr hown hh1
          go_wp2
          go_roundw
          case rel => exact ⟨k + 1, by omega, by go_num, by rw [hsu.out]; exact R.out, (hbel.alloc hsz _).trans hbel'⟩
          case measure => simp [intOf]; omega
      · rw [if_neg hin, List.append_nil] at hsu
        replace hsu := toHid hsu
        have hkd : ¬ (k : Int) = d := fun e => hin (.inl e)
        have hkd2 : ((k : Int) == d) = false := by simpa using hkd
        rw [decide_eq_false (fun e => hin (.inr e))] at hh1
        clear hin
        go_wp2_with (go_at_call 75; refine hh1.mono ?_; rintro e w' ⟨rfl, hw'⟩; subst w')
        go_roundw
        case rel => exact ⟨k + 1, by omega, by go_num, by rw [hsu.out]; exact hown, hbel⟩
        case measure => simp [intOf]; omega
    · obtain rfl : k = 256 := by omega
      rw [HA.out] at hown
      have hR := RowI.of_owns hown
      obtain ⟨p, c, rfl, _, _, _⟩ := id hR
      replace hR := toHid hR
      clear hown HA HH
      by_cases hl : (wiI xs d).length ≤ 16
      · have E := toHid (HOK.out hl)
        have hl1 : ¬ (16 : Int) < ((wiI xs d).length : Int) := by omega
        clear HOK HNO
        go_wp2
        go_ret2
        rw [E.out.1, E.out.2]
        exact ⟨_, rfl, hR.out, hbel⟩
      · have E := toHid (HNO.out hl)
        have hl1 : (16 : Int) < ((wiI xs d).length : Int) := by omega
        clear HOK HNO
        go_wp2
        go_ret2
        rw [E.out.1, E.out.2]
        exact ⟨_, rfl, RowI.nil0, hbel⟩

theorem rWith_any {lo hi : Nat} {w : World} {v : Value} {xs : List Int} (hx : RowI lo hi w v xs) (hh : hi ≤ w.heap.size) (d : Int) :
    Calls Tryz.prog 49 #[v, .int .i64 d] w fun e w' => ∃ u, e = .returned (.tuple #[u, .int .i64 (wiE xs d)]) ∧ RowI w.heap.size w'.heap.size w' u (wiL xs d) ∧ Below w.heap.size w w' := by
  have H1 := rPaMay_any hx
  rcases Bool.eq_false_or_eq_true (paB xs) with h | h
  · rcases Bool.eq_false_or_eq_true (plB d) with hd | hd
    · exact rWith_yes hx hh d h hd
    · obtain ⟨e1, e2⟩ := wi_form (xs := xs) (.inr hd)
      rw [e1, e2]
      rw [h] at H1
      clear e1 e2 h hx
      go_enter Tryz.func49, Tryz.ntmps49
      go_wp2_with (first
        | (go_at_call 77; refine H1.mono ?_; rintro e w1 ⟨rfl, q, hw1⟩; subst w1)
        | (go_at_call 72; refine (rPlaceMay_any _ _).mono ?_; rintro e w' ⟨rfl, hw'⟩; subst w'))
      go_ret2
      exact ⟨_, rfl, RowI.nil0, (Below.refl _ w).onD q⟩
  · obtain ⟨e1, e2⟩ := wi_form (d := d) (.inl h)
    rw [e1, e2]
    rw [h] at H1
    clear e1 e2 h hx
    go_enter Tryz.func49, Tryz.ntmps49
    go_wp2_with (first
      | (go_at_call 77; refine H1.mono ?_; rintro e w1 ⟨rfl, q, hw1⟩; subst w1))
    go_ret2
    exact ⟨_, rfl, RowI.nil0, (Below.refl _ w).onD q⟩

end Go.Proofs.YtghamcomjfholaaGreat
