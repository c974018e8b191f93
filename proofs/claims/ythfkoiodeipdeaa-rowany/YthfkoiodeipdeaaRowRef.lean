/-
  Contracts of the document's own answers for layer 2 (places by distance, the owner): what they return, and that nothing that was there is turned.
-/
import Derived.Test.YthfkoiodeipdeaaRingRef
import Derived.Test.YthfkoiodeipdeaaLaw0
import Derived.Test.YthfkoiodeipdeaaRowMath
namespace Go.Proofs.Ythfkoiodeipdeaa
open Go.ChangeShapes Go.WideShapes Go.ChangeAt Go.RowKit

set_option maxHeartbeats 400000 in
theorem has_any {lo hi : Nat} {w : World} {v : Value} {xs : List Int} (hv : RowI lo hi w v xs) (x : Int) :
    Calls Try.prog 27 #[v, .int .i64 x] w fun e w' => e = .returned (.bool (decide (x ∈ xs))) ∧ w' = w := by
  obtain ⟨p, c, rfl, hl, hc, hpx⟩ := hv
  unfold maxLen at hc
  have hn : xs.length ≤ 9223372036854775807 := by omega
  have hp : 0 < xs.length → ∃ b off, p = some ⟨b, off, none⟩ ∧ ∀ j, j < xs.length → w.cell? ⟨b, off + j, none⟩ = some (.int .i64 (xs.getD j 0)) := by
    intro h0
    obtain ⟨b, off, e, h1, _, h3⟩ := hpx (by intro e; simp [e] at h0)
    exact ⟨b, off, e, fun j hj => (h3 j hj).1⟩
  have hin : (decide (x ∈ xs)) = true ↔ ∃ j, j < xs.length ∧ xs.getD j 0 = x := by
    rw [decide_eq_true_iff, List.mem_iff_getElem]
    constructor
    · rintro ⟨j, hj, e⟩; exact ⟨j, hj, by simp [List.getD, List.getElem?_eq_getElem hj, e]⟩
    · rintro ⟨j, hj, e⟩; exact ⟨j, hj, by simpa [List.getD, List.getElem?_eq_getElem hj] using e⟩
  generalize decide (x ∈ xs) = r at *
  obtain ⟨g, hg⟩ : ∃ g : Nat → Int, ∀ j, xs.getD j 0 = g j := ⟨_, fun _ => rfl⟩
  simp only [hg] at hp hin
  clear hpx hg hl hc
  generalize xs.length = n at *
  go_enter Try.func27, Try.ntmps27
  go_wp2
  go_loop [5] (fun i => ∃ k : Nat, k ≤ n ∧ i = .int .i64 k ∧ (∀ j, j < k → g j ≠ x)) (fun i => n - (intOf i).toNat)
  case atStart => exact ⟨0, Nat.zero_le _, rfl, fun j hj => absurd hj (Nat.not_lt_zero _)⟩
  case round =>
    obtain ⟨k, hk, rfl, hj⟩ := hrel
    by_cases hlt : k < n
    · obtain ⟨b, off, rfl, h1⟩ := hp (by omega)
      have c1 : w.cell? ⟨b, off + k, none⟩ = some (.int .i64 (g k)) := h1 k hlt
      have hlt' : (k : Int) < (n : Int) := by omega
      clear h1 hp
      by_cases he : g k = x
      · have hrt : r = true := hin.2 ⟨k, hlt, he⟩
        subst hrt
        clear hin hj
        go_wp2
        go_ret
        exact ⟨rfl, rfl⟩
      · have hj' : ∀ j, j < k + 1 → g j ≠ x := fun j hjk => by
          by_cases e : j = k
          · rw [e]; exact he
          · exact hj j (by omega)
        clear hin hj
        go_wp2
        go_round
        case rel => exact ⟨k + 1, by omega, by go_num, hj'⟩
        case measure => simp [intOf]; omega
    · have hrf : r = false := by
        cases hr : r with
        | false => rfl
        | true =>
          obtain ⟨j, h1, h2⟩ := hin.1 hr
          exact absurd h2 (hj j (by omega))
      subst hrf
      clear hin hj hp
      go_wp2
      go_ret
      exact ⟨rfl, rfl⟩

set_option maxHeartbeats 400000 in
theorem placesMay_any {lo hi : Nat} {w : World} {v : Value} {xs : List Int} (hv : RowI lo hi w v xs) :
    Calls Try.prog 26 #[v] w fun e w' => e = .returned (.bool (plsB xs)) ∧ w' = w := by
  obtain ⟨p, c, rfl, hl, hc, hpx⟩ := hv
  unfold maxLen at hc
  have hn : xs.length ≤ 9223372036854775807 := by omega
  have hp : 0 < xs.length → ∃ b off, p = some ⟨b, off, none⟩ ∧ ∀ j, j < xs.length → w.cell? ⟨b, off + j, none⟩ = some (.int .i64 (xs.getD j 0)) := by
    intro h0
    obtain ⟨b, off, e, h1, _, h3⟩ := hpx (by intro e; simp [e] at h0)
    exact ⟨b, off, e, fun j hj => (h3 j hj).1⟩
  have hin : plsB xs = true ↔ ∀ j, j < xs.length → plB (xs.getD j 0) = true := by
    constructor
    · intro h j hj
      have := plsB_mem h xs[j] (List.getElem_mem hj)
      simpa [List.getD, List.getElem?_eq_getElem hj] using this
    · intro h
      refine plsB_mk fun x hx => ?_
      obtain ⟨j, hj, rfl⟩ := List.mem_iff_getElem.1 hx
      have := h j hj
      simpa [List.getD, List.getElem?_eq_getElem hj] using this
  generalize plsB xs = r at *
  obtain ⟨g, hg⟩ : ∃ g : Nat → Int, ∀ j, xs.getD j 0 = g j := ⟨_, fun _ => rfl⟩
  simp only [hg] at hp hin
  clear hpx hg hl hc
  generalize xs.length = n at *
  go_enter Try.func26, Try.ntmps26
  go_wp2
  go_loop [3] (fun i => ∃ k : Nat, k ≤ n ∧ i = .int .i64 k ∧ (∀ j, j < k → plB (g j) = true)) (fun i => n - (intOf i).toNat)
  case atStart => exact ⟨0, Nat.zero_le _, rfl, fun j hj => absurd hj (Nat.not_lt_zero _)⟩
  case round =>
    obtain ⟨k, hk, rfl, hj⟩ := hrel
    by_cases hlt : k < n
    · obtain ⟨b, off, rfl, h1⟩ := hp (by omega)
      have c1 : w.cell? ⟨b, off + k, none⟩ = some (.int .i64 (g k)) := h1 k hlt
      have hlt' : (k : Int) < (n : Int) := by omega
      clear h1 hp
      by_cases he : plB (g k) = true
      · have hj' : ∀ j, j < k + 1 → plB (g j) = true := fun j hjk => by
          by_cases e : j = k
          · rw [e]; exact he
          · exact hj j (by omega)
        clear hin hj
        go_wp2_with (go_at_call 25; refine (rPlaceMay_any _ _).mono ?_; rintro e w' ⟨rfl, rfl⟩)
        go_round
        case rel => exact ⟨k + 1, by omega, by go_num, hj'⟩
        case measure => simp [intOf]; omega
      · have hrf : r = false := by
          cases hr : r with
          | false => rfl
          | true => exact absurd (hin.1 hr k hlt) he
        have he : plB (g k) = false := by simpa using he
        subst hrf
        clear hin hj
        go_wp2_with (go_at_call 25; refine (rPlaceMay_any _ _).mono ?_; rintro e w' ⟨rfl, rfl⟩)
        go_ret
        exact ⟨rfl, rfl⟩
    · have hrt : r = true := hin.2 fun j hjn => hj j (by omega)
      subst hrt
      clear hin hj hp
      go_wp2
      go_ret
      exact ⟨rfl, rfl⟩

theorem rSort_no {lo hi : Nat} {w : World} {v : Value} {xs : List Int} (hv : RowI lo hi w v xs) (b : Int) (h : plB b = false ∨ plsB xs = false ∨ 64 < xs.length) :
    Calls Try.prog 10 #[.int .i64 b, v] w fun e w' => e = .returned (.tuple #[.slice none 0 0, .int .i64 200]) ∧ w' = w := by
  have hm := placesMay_any hv
  by_cases hb : plB b = true
  · by_cases hx : plsB xs = true
    · have hl : 64 < xs.length := by rcases h with h | h | h <;> simp_all
      obtain ⟨p, c, rfl, _, hc, _⟩ := hv
      have hl' : (64 : Int) < (xs.length : Int) := by omega
      clear h
      go_enter Try.func10, Try.ntmps10
      go_wp2_with (first | (go_at_call 25; refine (rPlaceMay_any _ _).mono ?_; rintro e w' ⟨rfl, rfl⟩) | (go_at_call 26; refine hm.mono ?_; rintro e w' ⟨rfl, rfl⟩))
      go_ret2
      exact ⟨rfl, rfl⟩
    · have hx : plsB xs = false := by simpa using hx
      clear h
      go_enter Try.func10, Try.ntmps10
      go_wp2_with (first | (go_at_call 25; refine (rPlaceMay_any _ _).mono ?_; rintro e w' ⟨rfl, rfl⟩) | (go_at_call 26; refine hm.mono ?_; rintro e w' ⟨rfl, rfl⟩))
      go_ret2
      exact ⟨rfl, rfl⟩
  · have hb : plB b = false := by simpa using hb
    clear h
    go_enter Try.func10, Try.ntmps10
    go_wp2_with (first | (go_at_call 25; refine (rPlaceMay_any _ _).mono ?_; rintro e w' ⟨rfl, rfl⟩) | (go_at_call 26; refine hm.mono ?_; rintro e w' ⟨rfl, rfl⟩))
    go_ret2
    exact ⟨rfl, rfl⟩

set_option maxHeartbeats 1000000 in
set_option maxRecDepth 1000000 in
theorem rSort_yes {lo hi : Nat} {w : World} {v : Value} {xs : List Int} (hv : RowI lo hi w v xs) (hhi : hi ≤ w.heap.size) (b : Int) (hb : plB b = true) (hx : plsB xs = true) (hl : xs.length ≤ 64) :
    Calls Try.prog 10 #[.int .i64 b, v] w fun e w' => ∃ u, e = .returned (.tuple #[u, .int .i64 0]) ∧ RowI w.heap.size w'.heap.size w' u (rowOf b xs) ∧ Below w.heap.size w w' := by
  have hm := placesMay_any hv
  have hh : ∀ wr : World, Below w.heap.size w wr → ∀ x, Calls Try.prog 27 #[v, .int .i64 x] wr fun e w' => e = .returned (.bool (decide (x ∈ xs))) ∧ w' = wr :=
    fun wr hb x => has_any (hv.below hb hhi) x
  obtain ⟨p, c, rfl, _, hc, _⟩ := hv
  have hl' : (xs.length : Int) ≤ 64 := by omega
  have ⟨hb0, hb1⟩ := plB_yes hb
  go_enter Try.func10, Try.ntmps10
  go_wp2_with (first | (go_at_call 25; refine (rPlaceMay_any _ _).mono ?_; rintro e w' ⟨rfl, hw'⟩; subst w') | (go_at_call 26; refine hm.mono ?_; rintro e w' ⟨rfl, hw'⟩; subst w'))
  go_loopw [6, 7] (fun v i wr => ∃ k : Nat, k ≤ 255 ∧ i = .int .i64 ((k : Int) + 1) ∧ wr.ownsRow w.heap.size 3 1 v (rowTo b xs k).length ((rowTo b xs k).map (Value.int .i64)) ∧ Below w.heap.size w wr) (fun _ i _ => 256 - (intOf i).toNat)
  case atStart => exact ⟨0, Nat.zero_le _, rfl, World.ownsRow_nil _ _ _ _, Below.refl _ _⟩
  case round =>
    obtain ⟨k, hk, rfl, hown, hbel⟩ := hrel
    by_cases hlt : k < 255
    · have hle := rowTo_le b xs k
      have hsu := rowTo_succ b xs k
      have hhas := hh _ hbel
      have hsz := hbel.size
      by_cases hin : (b + ((k : Int) + 1)) % 256 ∈ xs
      · rw [if_pos hin] at hsu
        have HS : Hid (rowTo b xs (k + 1) = rowTo b xs k ++ [(b + ((k : Int) + 1)) % 256]) := hsu
        clear hsu
        have hd : decide ((b + ((k : Int) + 1)) % 256 ∈ xs) = true := by simpa using hin
        clear hin
        have hh1 := hhas ((b + ((k : Int) + 1)) % 256)
        rw [hd] at hh1
        clear hh hhas hm hd
        go_wp2_with (first
          | (go_at_call 27; refine hh1.mono ?_; rintro e w' ⟨rfl, hw'⟩; subst w')
          | (at_builtin; refine app_ints rfl (.tmp 31) (.tmp 36) rfl w.heap.size _ _ (rowTo b xs k) rfl (hown.alloc _) ⟨wr.heap.size, 0, none⟩ 1 1 [(b + ((k : Int) + 1)) % 256] rfl rfl (fun j hj => ?_) (by omega) (by simp; omega) ?_; · (match j, hj with | 0, _ => simp [Addr.add])))
        intro v' w1 hown' hgr hbel'
        have R : w1.ownsRow w.heap.size 3 1 v' (rowTo b xs (k + 1)).length ((rowTo b xs (k + 1)).map (Value.int .i64)) ∧ Below w.heap.size w w1 := by
          refine ⟨?_, (hbel.alloc hsz _).trans hbel'⟩
          rw [HS.out]
          simpa using hown'
        clear hown' hgr hbel' hown hh1
        go_wp2
        go_roundw
        case rel => exact ⟨k + 1, by omega, by go_num, R.1, R.2⟩
        case measure => simp [intOf]; omega
      · rw [if_neg hin, List.append_nil] at hsu
        have HS : Hid (rowTo b xs (k + 1) = rowTo b xs k) := hsu
        clear hsu
        have hd : decide ((b + ((k : Int) + 1)) % 256 ∈ xs) = false := by simpa using hin
        clear hin
        have hh1 := hhas ((b + ((k : Int) + 1)) % 256)
        rw [hd] at hh1
        clear hh hhas hm hd
        go_wp2_with (go_at_call 27; refine hh1.mono ?_; rintro e w' ⟨rfl, hw'⟩; subst w')
        go_roundw
        case rel => exact ⟨k + 1, by omega, by go_num, by rw [HS.out]; exact hown, hbel⟩
        case measure => simp [intOf]; omega
    · have hk : k = 255 := by omega
      subst hk
      go_wp2
      go_ret2
      exact ⟨_, rfl, RowI.of_owns hown, hbel⟩

theorem rOwner_no {lo hi : Nat} {w : World} {v : Value} {xs : List Int} (hv : RowI lo hi w v xs) (b : Int) (h : plB b = false ∨ plsB xs = false ∨ xs.length = 0 ∨ 64 < xs.length) :
    Calls Try.prog 12 #[v, .int .i64 b] w fun e w' => e = .returned (.tuple #[.int .i64 0, .int .i64 200]) ∧ w' = w := by
  have hm := placesMay_any hv
  by_cases hb : plB b = true
  · by_cases hx : plsB xs = true
    · obtain ⟨p, c, rfl, _, hc, _⟩ := hv
      have h : xs.length = 0 ∨ 64 < xs.length := by
        rcases h with h | h | h
        · rw [hb] at h; cases h
        · rw [hx] at h; cases h
        · exact h
      rw [hx] at hm
      clear hx
      generalize xs.length = n at *
      rcases h with rfl | h
      · clear hc
        go_enter Try.func12, Try.ntmps12
        go_wp2_with (first | (go_at_call 25; refine (rPlaceMay_any _ _).mono ?_; rintro e w' ⟨rfl, rfl⟩) | (go_at_call 26; refine hm.mono ?_; rintro e w' ⟨rfl, rfl⟩))
        go_ret2
        exact ⟨rfl, rfl⟩
      · have h0' : ¬ (n : Int) = 0 := by omega
        have hl' : (64 : Int) < (n : Int) := by omega
        clear h
        go_enter Try.func12, Try.ntmps12
        go_wp2_with (first | (go_at_call 25; refine (rPlaceMay_any _ _).mono ?_; rintro e w' ⟨rfl, rfl⟩) | (go_at_call 26; refine hm.mono ?_; rintro e w' ⟨rfl, rfl⟩))
        go_ret2
        exact ⟨rfl, rfl⟩
    · have hx : plsB xs = false := by simpa using hx
      clear h
      go_enter Try.func12, Try.ntmps12
      go_wp2_with (first | (go_at_call 25; refine (rPlaceMay_any _ _).mono ?_; rintro e w' ⟨rfl, rfl⟩) | (go_at_call 26; refine hm.mono ?_; rintro e w' ⟨rfl, rfl⟩))
      go_ret2
      exact ⟨rfl, rfl⟩
  · have hb : plB b = false := by simpa using hb
    clear h
    go_enter Try.func12, Try.ntmps12
    go_wp2_with (first | (go_at_call 25; refine (rPlaceMay_any _ _).mono ?_; rintro e w' ⟨rfl, rfl⟩) | (go_at_call 26; refine hm.mono ?_; rintro e w' ⟨rfl, rfl⟩))
    go_ret2
    exact ⟨rfl, rfl⟩

set_option maxHeartbeats 1000000 in
theorem rOwner_yes {lo hi : Nat} {w : World} {v : Value} {xs : List Int} (hv : RowI lo hi w v xs) (b : Int) (hb : plB b = true) (hx : plsB xs = true) (h0 : xs ≠ []) (hl : xs.length ≤ 64) :
    Calls Try.prog 12 #[v, .int .i64 b] w fun e w' => e = .returned (.tuple #[.int .i64 (ownerOf xs b), .int .i64 0]) ∧ w' = w := by
  have hm := placesMay_any hv
  obtain ⟨p, c, rfl, _, hc, hpx⟩ := hv
  obtain ⟨bl, off, rfl, _, _, h3⟩ := hpx h0
  have hpl0 : ∀ j, j < xs.length → plB (xs.getD j 0) = true := fun j hj => by
    have := plsB_mem hx xs[j] (List.getElem_mem hj)
    simpa [List.getD, List.getElem?_eq_getElem hj] using this
  have hn1 : 1 ≤ xs.length := List.length_pos_iff.2 h0
  have ho : ownerOf xs b = nearAt b (fun j => xs.getD j 0) (xs.length - 1) := rfl
  rw [ho]
  have hcell0 : ∀ j, j < xs.length → w.cell? ⟨bl, off + j, none⟩ = some (.int .i64 (xs.getD j 0)) := fun j hj => (h3 j hj).1
  rw [hx] at hm
  clear hpx h3 h0 ho hx
  obtain ⟨g, hg⟩ : ∃ g : Nat → Int, g = fun j => xs.getD j 0 := ⟨_, rfl⟩
  rw [← hg]
  have hpl : ∀ j, j < xs.length → plB (g j) = true := by rw [hg]; exact hpl0
  have hcell : ∀ j, j < xs.length → w.cell? ⟨bl, off + j, none⟩ = some (.int .i64 (g j)) := by rw [hg]; exact hcell0
  clear hg hpl0 hcell0
  generalize xs.length = n at *
  have e0 : w.cell? ⟨bl, off, none⟩ = some (.int .i64 (g 0)) := hcell 0 (by omega)
  have hn1' : (0 : Int) < (n : Int) := by omega
  have hn0 : ¬ (n : Int) = 0 := by omega
  have hl' : (n : Int) ≤ 64 := by omega
  have hb0 : ((n : Int) == 0) = false := by simp; omega
  have hb1 : decide ((64 : Int) < (n : Int)) = false := by simp; omega
  go_enter Try.func12, Try.ntmps12
  go_wp2_with (first | (go_at_call 25; refine (rPlaceMay_any _ _).mono ?_; rintro e w' ⟨rfl, hw'⟩; subst w') | (go_at_call 26; refine hm.mono ?_; rintro e w' ⟨rfl, hw'⟩; subst w'))
  go_loop [6, 7] (fun m i => ∃ k : Nat, k + 1 ≤ n ∧ i = .int .i64 ((k : Int) + 1) ∧ m = .int .i64 (nearAt b g k)) (fun _ i => n - (intOf i).toNat)
  case atStart => exact ⟨0, by omega, rfl, rfl⟩
  case round =>
    obtain ⟨k, hk, rfl, rfl⟩ := hrel
    have hsu : nearAt b g (k + 1) = if far b (g (k + 1)) < far b (nearAt b g k) then g (k + 1) else nearAt b g k := rfl
    by_cases hlt : k + 1 < n
    · have hlt' : (k : Int) + 1 < (n : Int) := by omega
      have c1 : w.cell? ⟨bl, off + (k + 1), none⟩ = some (.int .i64 (g (k + 1))) := hcell (k + 1) hlt
      have p1 : plB (g (k + 1)) = true := hpl _ hlt
      have p2 : plB (nearAt b g k) = true := by
        obtain ⟨j, hj, e⟩ := nearAt_mem b g k
        rw [e]; exact hpl _ (by omega)
      clear hcell hpl hm e0
      by_cases hf : far b (g (k + 1)) < far b (nearAt b g k)
      · rw [if_pos hf] at hsu
        have HS : Hid (nearAt b g (k + 1) = g (k + 1)) := hsu
        clear hsu
        go_wp2_with (go_at_call 29; refine (rfar_any _ _ _ (by assumption) (by assumption)).mono ?_; rintro e w' ⟨rfl, hw'⟩; subst w')
        go_round
        case rel => exact ⟨k + 1, by omega, by go_num, by rw [HS.out]⟩
        case measure => simp [intOf]; omega
      · rw [if_neg hf] at hsu
        have HS : Hid (nearAt b g (k + 1) = nearAt b g k) := hsu
        clear hsu
        go_wp2_with (go_at_call 29; refine (rfar_any _ _ _ (by assumption) (by assumption)).mono ?_; rintro e w' ⟨rfl, hw'⟩; subst w')
        go_round
        case rel => exact ⟨k + 1, by omega, by go_num, by rw [HS.out]⟩
        case measure => simp [intOf]; omega
    · obtain rfl : k = n - 1 := by omega
      clear hsu
      go_wp2
      go_ret2
      exact ⟨rfl, rfl⟩

theorem rSort_any {lo hi : Nat} {w : World} {v : Value} {xs : List Int} (hv : RowI lo hi w v xs) (hhi : hi ≤ w.heap.size) (b : Int) :
    Calls Try.prog 10 #[.int .i64 b, v] w fun e w' => ∃ u, e = .returned (.tuple #[u, .int .i64 (rowE b xs)]) ∧ RowI w.heap.size w'.heap.size w' u (rowL b xs) ∧ Below w.heap.size w w' := by
  by_cases h : rowB b xs = true
  · unfold rowE rowL
    rw [if_pos h, if_pos h]
    obtain ⟨hl, hb, hx⟩ := rowB_yes h
    exact rSort_yes hv hhi b hb hx hl
  · unfold rowE rowL
    rw [if_neg h, if_neg h]
    have h : rowB b xs = false := by simpa using h
    refine (rSort_no hv b (rowB_no h)).mono ?_
    rintro e w' ⟨rfl, rfl⟩
    exact ⟨_, rfl, RowI.nil0, Below.refl _ _⟩

theorem rOwner_any {lo hi : Nat} {w : World} {v : Value} {xs : List Int} (hv : RowI lo hi w v xs) (b : Int) :
    Calls Try.prog 12 #[v, .int .i64 b] w fun e w' => e = .returned (.tuple #[.int .i64 (ownV xs b), .int .i64 (ownE xs b)]) ∧ w' = w := by
  by_cases h : rowB b xs = true ∧ xs ≠ []
  · unfold ownV ownE
    rw [if_pos h, if_pos h]
    obtain ⟨hl, hb, hx⟩ := rowB_yes h.1
    exact rOwner_yes hv b hb hx h.2 hl
  · unfold ownV ownE
    rw [if_neg h, if_neg h]
    refine rOwner_no hv b ?_
    by_cases e : xs = []
    · right; right; left; rw [e]; rfl
    · have hr : rowB b xs = false := by
        cases hr : rowB b xs with
        | false => rfl
        | true => exact absurd ⟨hr, e⟩ h
      rcases rowB_no hr with h | h | h
      · exact .inl h
      · exact .inr (.inl h)
      · exact .inr (.inr (.inr h))

end Go.Proofs.Ythfkoiodeipdeaa
