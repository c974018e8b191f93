/-
  Contracts of the document's own answers about items (may it be; the best of two), at every two items.
-/
import Derived.Test.YtmbommkehchchaaItem
namespace Go.Proofs.Ytmbommkehchchaa
open Go.ChangeShapes Go.WideShapes Go.ChangeAt Go.RowKit

theorem itB_ver {k c u x : Int} {g : Bool} (h : itB ⟨k, c, u, x, g⟩ = true) : verB c u = true := by
  simp only [itB, Bool.and_eq_true] at h
  exact h.2.2.1
theorem itB_zero {k c u x : Int} (h : itB ⟨k, c, u, x, true⟩ = true) : x = 0 := by
  simp [itB] at h
  exact h.2.2.2
theorem newB_or {c u d v : Int} (h1 : verB c u = true) (h2 : verB d v = true) (h : newB c u d v = false) (hn : ¬ c = d ∨ ¬ u = v) : newB d v c u = true := by
  simp [newB, h1, h2, gtB] at h ⊢
  omega

theorem rByte_any (a : Int) (w : World) :
    Calls Try.prog 31 #[.int .i64 a] w fun e w' => e = .returned (.bool (byB a)) ∧ w' = w := by
  by_cases h1 : 0 ≤ a
  · have e : byB a = decide (a ≤ 255) := by simp [byB, h1]
    rw [e]
    clear e
    go_enter Try.func31, Try.ntmps31
    go_wp2
    go_ret
    exact ⟨rfl, rfl⟩
  · have e : byB a = false := by simp [byB, h1]
    have hd : decide (0 ≤ a) = false := by simpa using h1
    rw [e]
    clear e
    go_enter Try.func31, Try.ntmps31
    go_wp2
    go_ret
    exact ⟨rfl, rfl⟩

set_option maxHeartbeats 1000000 in
theorem rIMay_any (k c u x : Int) (g : Bool) (w : World) :
    Calls Try.prog 22 #[.agg #[.int .i64 k, .int .i64 c, .int .i64 u, .int .i64 x, .bool g]] w fun e w' => e = .returned (.bool (itB ⟨k, c, u, x, g⟩)) ∧ Below w.heap.size w w' := by
  have t1 := trivial
  simp only [itB]
  rcases Bool.eq_false_or_eq_true (byB k) with hk | hk
  · rcases Bool.eq_false_or_eq_true (byB x) with hx | hx
    · rcases Bool.eq_false_or_eq_true (verB c u) with hv | hv
      · cases g
        all_goals
          rw [hk, hx, hv]
          go_enter Try.func22, Try.ntmps22
          go_wp2_with (first
            | (go_at_call 31; clear t1; refine (rByte_any _ _).mono ?_; rintro e w' ⟨rfl, hw'⟩; subst w')
            | (go_at_call 31; refine (rByte_any _ _).mono ?_; rintro e w' ⟨rfl, hw'⟩; subst w')
            | (go_at_call 32; refine (rMay_any _ _ _).mono ?_; rintro e w2 ⟨rfl, hb2⟩; obtain ⟨hc2, hf2⟩ := bcell hb2))
          go_ret
          exact ⟨by first | rfl | simp, ((Below.refl _ w).onA _).on hb2⟩
      · rw [hk, hx, hv]
        go_enter Try.func22, Try.ntmps22
        go_wp2_with (first
          | (go_at_call 31; clear t1; refine (rByte_any _ _).mono ?_; rintro e w' ⟨rfl, hw'⟩; subst w')
          | (go_at_call 31; refine (rByte_any _ _).mono ?_; rintro e w' ⟨rfl, hw'⟩; subst w')
          | (go_at_call 32; refine (rMay_any _ _ _).mono ?_; rintro e w2 ⟨rfl, hb2⟩))
        go_ret
        exact ⟨rfl, ((Below.refl _ w).onA _).on hb2⟩
    · rw [hk, hx]
      go_enter Try.func22, Try.ntmps22
      go_wp2_with (first
        | (go_at_call 31; clear t1; refine (rByte_any _ _).mono ?_; rintro e w' ⟨rfl, hw'⟩; subst w')
        | (go_at_call 31; refine (rByte_any _ _).mono ?_; rintro e w' ⟨rfl, hw'⟩; subst w'))
      go_ret
      exact ⟨rfl, (Below.refl _ w).onA _⟩
  · rw [hk]
    go_enter Try.func22, Try.ntmps22
    go_wp2_with (first
      | (go_at_call 31; refine (rByte_any _ _).mono ?_; rintro e w' ⟨rfl, hw'⟩; subst w'))
    go_ret
    exact ⟨rfl, (Below.refl _ w).onA _⟩

set_option maxHeartbeats 1000000 in
theorem rBest_n (k c u x d v y : Int) (g h : Bool) (w : World) (ha : itB ⟨k, c, u, x, g⟩ = true) (hb : itB ⟨k, d, v, y, h⟩ = true) (hn : newB c u d v = true) :
    Calls Try.prog 28 #[.agg #[.int .i64 k, .int .i64 c, .int .i64 u, .int .i64 x, .bool g], .agg #[.int .i64 k, .int .i64 d, .int .i64 v, .int .i64 y, .bool h]] w fun e w' => e = .returned (.tuple #[.agg #[.int .i64 k, .int .i64 c, .int .i64 u, .int .i64 x, .bool g], .int .i64 0]) ∧ Below w.heap.size w w' := by
  have t1 := trivial
  go_enter Try.func28, Try.ntmps28
  go_wp2_with (first
    | (go_at_call 22; clear t1; refine (rIMay_any _ _ _ _ _ _).mono ?_; rintro e w1 ⟨rfl, hb1⟩; obtain ⟨hc1, hf1⟩ := bcell hb1)
    | (go_at_call 22; refine (rIMay_any _ _ _ _ _ _).mono ?_; rintro e w2 ⟨rfl, hb2⟩; replace hb2 := hb1.on hb2; clear hb1 hc1 hf1; obtain ⟨hc2, hf2⟩ := bcell hb2)
    | (go_at_call 39; refine (rNewer_any _ _ _ _ _).mono ?_; rintro e w3 ⟨rfl, hb3⟩; replace hb3 := hb2.on hb3; clear hb2 hc2 hf2; obtain ⟨hc3, hf3⟩ := bcell hb3))
  exact bodyPost_ret (v := .tuple #[.agg #[.int .i64 k, .int .i64 c, .int .i64 u, .int .i64 x, .bool g], .int .i64 0]) (by simp [results, Try.results28, go_sem, hc3]) rfl ⟨rfl, (((((Below.refl _ w).onA _).onA _).onA _).on hb3).set5 (Nat.le_succ_of_le (Nat.le_succ _)) _ _ _ _ _⟩

set_option maxHeartbeats 1000000 in
theorem rBest_c (k c u x d v y : Int) (g h : Bool) (w : World) (ha : itB ⟨k, c, u, x, g⟩ = true) (hb : itB ⟨k, d, v, y, h⟩ = true) (hn : newB c u d v = false) (hc : ¬ c = d) :
    Calls Try.prog 28 #[.agg #[.int .i64 k, .int .i64 c, .int .i64 u, .int .i64 x, .bool g], .agg #[.int .i64 k, .int .i64 d, .int .i64 v, .int .i64 y, .bool h]] w fun e w' => e = .returned (.tuple #[.agg #[.int .i64 k, .int .i64 d, .int .i64 v, .int .i64 y, .bool h], .int .i64 0]) ∧ Below w.heap.size w w' := by
  have t1 := trivial
  go_enter Try.func28, Try.ntmps28
  go_wp2_with (first
    | (go_at_call 22; clear t1; refine (rIMay_any _ _ _ _ _ _).mono ?_; rintro e w1 ⟨rfl, hb1⟩; obtain ⟨hc1, hf1⟩ := bcell hb1)
    | (go_at_call 22; refine (rIMay_any _ _ _ _ _ _).mono ?_; rintro e w2 ⟨rfl, hb2⟩; replace hb2 := hb1.on hb2; clear hb1 hc1 hf1; obtain ⟨hc2, hf2⟩ := bcell hb2)
    | (go_at_call 39; refine (rNewer_any _ _ _ _ _).mono ?_; rintro e w3 ⟨rfl, hb3⟩; replace hb3 := hb2.on hb3; clear hb2 hc2 hf2; obtain ⟨hc3, hf3⟩ := bcell hb3))
  exact bodyPost_ret (v := .tuple #[.agg #[.int .i64 k, .int .i64 d, .int .i64 v, .int .i64 y, .bool h], .int .i64 0]) (by simp [results, Try.results28, go_sem, hc3]) rfl ⟨rfl, (((((Below.refl _ w).onA _).onA _).onA _).on hb3).set5 (Nat.le_succ_of_le (Nat.le_succ _)) _ _ _ _ _⟩

set_option maxHeartbeats 1000000 in
theorem rBest_u (k c u x v y : Int) (g h : Bool) (w : World) (ha : itB ⟨k, c, u, x, g⟩ = true) (hb : itB ⟨k, c, v, y, h⟩ = true) (hn : newB c u c v = false) (hc : ¬ u = v) :
    Calls Try.prog 28 #[.agg #[.int .i64 k, .int .i64 c, .int .i64 u, .int .i64 x, .bool g], .agg #[.int .i64 k, .int .i64 c, .int .i64 v, .int .i64 y, .bool h]] w fun e w' => e = .returned (.tuple #[.agg #[.int .i64 k, .int .i64 c, .int .i64 v, .int .i64 y, .bool h], .int .i64 0]) ∧ Below w.heap.size w w' := by
  have t1 := trivial
  go_enter Try.func28, Try.ntmps28
  go_wp2_with (first
    | (go_at_call 22; clear t1; refine (rIMay_any _ _ _ _ _ _).mono ?_; rintro e w1 ⟨rfl, hb1⟩; obtain ⟨hc1, hf1⟩ := bcell hb1)
    | (go_at_call 22; refine (rIMay_any _ _ _ _ _ _).mono ?_; rintro e w2 ⟨rfl, hb2⟩; replace hb2 := hb1.on hb2; clear hb1 hc1 hf1; obtain ⟨hc2, hf2⟩ := bcell hb2)
    | (go_at_call 39; refine (rNewer_any _ _ _ _ _).mono ?_; rintro e w3 ⟨rfl, hb3⟩; replace hb3 := hb2.on hb3; clear hb2 hc2 hf2; obtain ⟨hc3, hf3⟩ := bcell hb3))
  exact bodyPost_ret (v := .tuple #[.agg #[.int .i64 k, .int .i64 c, .int .i64 v, .int .i64 y, .bool h], .int .i64 0]) (by simp [results, Try.results28, go_sem, hc3]) rfl ⟨rfl, (((((Below.refl _ w).onA _).onA _).onA _).on hb3).set5 (Nat.le_succ_of_le (Nat.le_succ _)) _ _ _ _ _⟩

set_option maxHeartbeats 1000000 in
theorem rBest_h (k c u x y : Int) (g : Bool) (w : World) (ha : itB ⟨k, c, u, x, g⟩ = true) (hb : itB ⟨k, c, u, y, true⟩ = true) (hn : newB c u c u = false) :
    Calls Try.prog 28 #[.agg #[.int .i64 k, .int .i64 c, .int .i64 u, .int .i64 x, .bool g], .agg #[.int .i64 k, .int .i64 c, .int .i64 u, .int .i64 y, .bool true]] w fun e w' => e = .returned (.tuple #[.agg #[.int .i64 k, .int .i64 c, .int .i64 u, .int .i64 y, .bool true], .int .i64 0]) ∧ Below w.heap.size w w' := by
  have t1 := trivial
  go_enter Try.func28, Try.ntmps28
  go_wp2_with (first
    | (go_at_call 22; clear t1; refine (rIMay_any _ _ _ _ _ _).mono ?_; rintro e w1 ⟨rfl, hb1⟩; obtain ⟨hc1, hf1⟩ := bcell hb1)
    | (go_at_call 22; refine (rIMay_any _ _ _ _ _ _).mono ?_; rintro e w2 ⟨rfl, hb2⟩; replace hb2 := hb1.on hb2; clear hb1 hc1 hf1; obtain ⟨hc2, hf2⟩ := bcell hb2)
    | (go_at_call 39; refine (rNewer_any _ _ _ _ _).mono ?_; rintro e w3 ⟨rfl, hb3⟩; replace hb3 := hb2.on hb3; clear hb2 hc2 hf2; obtain ⟨hc3, hf3⟩ := bcell hb3))
  exact bodyPost_ret (v := .tuple #[.agg #[.int .i64 k, .int .i64 c, .int .i64 u, .int .i64 y, .bool true], .int .i64 0]) (by simp [results, Try.results28, go_sem, hc3]) rfl ⟨rfl, (((((Below.refl _ w).onA _).onA _).onA _).on hb3).set5 (Nat.le_succ_of_le (Nat.le_succ _)) _ _ _ _ _⟩

set_option maxHeartbeats 1000000 in
theorem rBest_g (k c u x y : Int) (w : World) (ha : itB ⟨k, c, u, x, true⟩ = true) (hb : itB ⟨k, c, u, y, false⟩ = true) (hn : newB c u c u = false) :
    Calls Try.prog 28 #[.agg #[.int .i64 k, .int .i64 c, .int .i64 u, .int .i64 x, .bool true], .agg #[.int .i64 k, .int .i64 c, .int .i64 u, .int .i64 y, .bool false]] w fun e w' => e = .returned (.tuple #[.agg #[.int .i64 k, .int .i64 c, .int .i64 u, .int .i64 x, .bool true], .int .i64 0]) ∧ Below w.heap.size w w' := by
  have t1 := trivial
  go_enter Try.func28, Try.ntmps28
  go_wp2_with (first
    | (go_at_call 22; clear t1; refine (rIMay_any _ _ _ _ _ _).mono ?_; rintro e w1 ⟨rfl, hb1⟩; obtain ⟨hc1, hf1⟩ := bcell hb1)
    | (go_at_call 22; refine (rIMay_any _ _ _ _ _ _).mono ?_; rintro e w2 ⟨rfl, hb2⟩; replace hb2 := hb1.on hb2; clear hb1 hc1 hf1; obtain ⟨hc2, hf2⟩ := bcell hb2)
    | (go_at_call 39; refine (rNewer_any _ _ _ _ _).mono ?_; rintro e w3 ⟨rfl, hb3⟩; replace hb3 := hb2.on hb3; clear hb2 hc2 hf2; obtain ⟨hc3, hf3⟩ := bcell hb3))
  exact bodyPost_ret (v := .tuple #[.agg #[.int .i64 k, .int .i64 c, .int .i64 u, .int .i64 x, .bool true], .int .i64 0]) (by simp [results, Try.results28, go_sem, hc3]) rfl ⟨rfl, (((((Below.refl _ w).onA _).onA _).onA _).on hb3).set5 (Nat.le_succ_of_le (Nat.le_succ _)) _ _ _ _ _⟩

set_option maxHeartbeats 1000000 in
theorem rBest_x (k c u x y : Int) (w : World) (ha : itB ⟨k, c, u, x, false⟩ = true) (hb : itB ⟨k, c, u, y, false⟩ = true) (hn : newB c u c u = false) (hx : x ≤ y) :
    Calls Try.prog 28 #[.agg #[.int .i64 k, .int .i64 c, .int .i64 u, .int .i64 x, .bool false], .agg #[.int .i64 k, .int .i64 c, .int .i64 u, .int .i64 y, .bool false]] w fun e w' => e = .returned (.tuple #[.agg #[.int .i64 k, .int .i64 c, .int .i64 u, .int .i64 y, .bool false], .int .i64 0]) ∧ Below w.heap.size w w' := by
  have t1 := trivial
  go_enter Try.func28, Try.ntmps28
  go_wp2_with (first
    | (go_at_call 22; clear t1; refine (rIMay_any _ _ _ _ _ _).mono ?_; rintro e w1 ⟨rfl, hb1⟩; obtain ⟨hc1, hf1⟩ := bcell hb1)
    | (go_at_call 22; refine (rIMay_any _ _ _ _ _ _).mono ?_; rintro e w2 ⟨rfl, hb2⟩; replace hb2 := hb1.on hb2; clear hb1 hc1 hf1; obtain ⟨hc2, hf2⟩ := bcell hb2)
    | (go_at_call 39; refine (rNewer_any _ _ _ _ _).mono ?_; rintro e w3 ⟨rfl, hb3⟩; replace hb3 := hb2.on hb3; clear hb2 hc2 hf2; obtain ⟨hc3, hf3⟩ := bcell hb3))
  exact bodyPost_ret (v := .tuple #[.agg #[.int .i64 k, .int .i64 c, .int .i64 u, .int .i64 y, .bool false], .int .i64 0]) (by simp [results, Try.results28, go_sem, hc3]) rfl ⟨rfl, (((((Below.refl _ w).onA _).onA _).onA _).on hb3).set5 (Nat.le_succ_of_le (Nat.le_succ _)) _ _ _ _ _⟩

set_option maxHeartbeats 1000000 in
theorem rBest_y (k c u x y : Int) (w : World) (ha : itB ⟨k, c, u, x, false⟩ = true) (hb : itB ⟨k, c, u, y, false⟩ = true) (hn : newB c u c u = false) (_ : ¬ x ≤ y) (hx2 : decide (x ≤ y) = false) :
    Calls Try.prog 28 #[.agg #[.int .i64 k, .int .i64 c, .int .i64 u, .int .i64 x, .bool false], .agg #[.int .i64 k, .int .i64 c, .int .i64 u, .int .i64 y, .bool false]] w fun e w' => e = .returned (.tuple #[.agg #[.int .i64 k, .int .i64 c, .int .i64 u, .int .i64 x, .bool false], .int .i64 0]) ∧ Below w.heap.size w w' := by
  have t1 := trivial
  go_enter Try.func28, Try.ntmps28
  go_wp2_with (first
    | (go_at_call 22; clear t1; refine (rIMay_any _ _ _ _ _ _).mono ?_; rintro e w1 ⟨rfl, hb1⟩; obtain ⟨hc1, hf1⟩ := bcell hb1)
    | (go_at_call 22; refine (rIMay_any _ _ _ _ _ _).mono ?_; rintro e w2 ⟨rfl, hb2⟩; replace hb2 := hb1.on hb2; clear hb1 hc1 hf1; obtain ⟨hc2, hf2⟩ := bcell hb2)
    | (go_at_call 39; refine (rNewer_any _ _ _ _ _).mono ?_; rintro e w3 ⟨rfl, hb3⟩; replace hb3 := hb2.on hb3; clear hb2 hc2 hf2; obtain ⟨hc3, hf3⟩ := bcell hb3))
  exact bodyPost_ret (v := .tuple #[.agg #[.int .i64 k, .int .i64 c, .int .i64 u, .int .i64 x, .bool false], .int .i64 0]) (by simp [results, Try.results28, go_sem, hc3]) rfl ⟨rfl, (((((Below.refl _ w).onA _).onA _).onA _).on hb3).set5 (Nat.le_succ_of_le (Nat.le_succ _)) _ _ _ _ _⟩

set_option maxHeartbeats 1000000 in
theorem rBest_no (k c u x : Int) (g : Bool) (l d v y : Int) (h : Bool) (w : World) (hn : okB ⟨k, c, u, x, g⟩ ⟨l, d, v, y, h⟩ = false) :
    Calls Try.prog 28 #[.agg #[.int .i64 k, .int .i64 c, .int .i64 u, .int .i64 x, .bool g], .agg #[.int .i64 l, .int .i64 d, .int .i64 v, .int .i64 y, .bool h]] w fun e w' => e = .returned (.tuple #[.agg #[.int .i64 0, .int .i64 0, .int .i64 0, .int .i64 0, .bool false], .int .i64 400]) ∧ Below w.heap.size w w' := by
  have t1 := trivial
  rcases Bool.eq_false_or_eq_true (itB ⟨k, c, u, x, g⟩) with ha | ha
  · rcases Bool.eq_false_or_eq_true (itB ⟨l, d, v, y, h⟩) with hb | hb
    · have hk : ¬ k = l := by simpa [okB, ha, hb] using hn
      clear hn
      go_enter Try.func28, Try.ntmps28
      go_wp2_with (first
        | (go_at_call 22; clear t1; refine (rIMay_any _ _ _ _ _ _).mono ?_; rintro e w1 ⟨rfl, hb1⟩; obtain ⟨hc1, hf1⟩ := bcell hb1)
        | (go_at_call 22; refine (rIMay_any _ _ _ _ _ _).mono ?_; rintro e w2 ⟨rfl, hb2⟩; replace hb2 := hb1.on hb2; clear hb1 hc1 hf1; obtain ⟨hc2, hf2⟩ := bcell hb2))
      exact bodyPost_ret (v := .tuple #[.agg #[.int .i64 0, .int .i64 0, .int .i64 0, .int .i64 0, .bool false], .int .i64 400]) (by simp [results, Try.results28, go_sem, hc2]) rfl ⟨rfl, (((((Below.refl _ w).onA _).onA _).onA _).on hb2).set5 (Nat.le_succ_of_le (Nat.le_succ _)) _ _ _ _ _⟩
    · clear hn
      go_enter Try.func28, Try.ntmps28
      go_wp2_with (first
        | (go_at_call 22; clear t1; refine (rIMay_any _ _ _ _ _ _).mono ?_; rintro e w1 ⟨rfl, hb1⟩; obtain ⟨hc1, hf1⟩ := bcell hb1)
        | (go_at_call 22; refine (rIMay_any _ _ _ _ _ _).mono ?_; rintro e w2 ⟨rfl, hb2⟩; replace hb2 := hb1.on hb2; clear hb1 hc1 hf1; obtain ⟨hc2, hf2⟩ := bcell hb2))
      exact bodyPost_ret (v := .tuple #[.agg #[.int .i64 0, .int .i64 0, .int .i64 0, .int .i64 0, .bool false], .int .i64 400]) (by simp [results, Try.results28, go_sem, hc2]) rfl ⟨rfl, (((((Below.refl _ w).onA _).onA _).onA _).on hb2).set5 (Nat.le_succ_of_le (Nat.le_succ _)) _ _ _ _ _⟩
  · clear hn
    go_enter Try.func28, Try.ntmps28
    go_wp2_with (first
      | (go_at_call 22; clear t1; refine (rIMay_any _ _ _ _ _ _).mono ?_; rintro e w1 ⟨rfl, hb1⟩; obtain ⟨hc1, hf1⟩ := bcell hb1))
    exact bodyPost_ret (v := .tuple #[.agg #[.int .i64 0, .int .i64 0, .int .i64 0, .int .i64 0, .bool false], .int .i64 400]) (by simp [results, Try.results28, go_sem, hc1]) rfl ⟨rfl, (((((Below.refl _ w).onA _).onA _).onA _).on hb1).set5 (Nat.le_succ_of_le (Nat.le_succ _)) _ _ _ _ _⟩

theorem rBest_any (k c u x : Int) (g : Bool) (l d v y : Int) (h : Bool) (w : World) :
    Calls Try.prog 28 #[.agg #[.int .i64 k, .int .i64 c, .int .i64 u, .int .i64 x, .bool g], .agg #[.int .i64 l, .int .i64 d, .int .i64 v, .int .i64 y, .bool h]] w fun e w' =>
      e = .returned (.tuple #[.agg #[.int .i64 (bstI ⟨k, c, u, x, g⟩ ⟨l, d, v, y, h⟩).k, .int .i64 (bstI ⟨k, c, u, x, g⟩ ⟨l, d, v, y, h⟩).c, .int .i64 (bstI ⟨k, c, u, x, g⟩ ⟨l, d, v, y, h⟩).u, .int .i64 (bstI ⟨k, c, u, x, g⟩ ⟨l, d, v, y, h⟩).x, .bool (bstI ⟨k, c, u, x, g⟩ ⟨l, d, v, y, h⟩).g], .int .i64 (bstE ⟨k, c, u, x, g⟩ ⟨l, d, v, y, h⟩)]) ∧ Below w.heap.size w w' := by
  rcases Bool.eq_false_or_eq_true (okB ⟨k, c, u, x, g⟩ ⟨l, d, v, y, h⟩) with ho | ho
  · obtain ⟨e1, e2⟩ := bst_yes ho
    simp only [okB, Bool.and_eq_true, decide_eq_true_eq] at ho
    obtain ⟨ha, hb, rfl⟩ := ho
    rw [e1, e2]
    clear e1 e2
    have va := itB_ver ha
    have vb := itB_ver hb
    rcases Bool.eq_false_or_eq_true (newB c u d v) with hn | hn
    · have hw : betB ⟨k, d, v, y, h⟩ ⟨k, c, u, x, g⟩ = false := by
        simp [newB, va, vb, gtB] at hn
        have hv : ¬ (d = c ∧ v = u) := by omega
        simp only [betB]
        rw [if_neg hv]
        simp [newB, va, vb, gtB]
        omega
      rw [if_neg (by simp [hw])]
      exact rBest_n _ _ _ _ _ _ _ _ _ _ ha hb hn
    · by_cases hc : c = d
      · subst hc
        by_cases hu : u = v
        · subst hu
          cases h
          · cases g
            · by_cases hx : x ≤ y
              · have hw : (if betB ⟨k, c, u, y, false⟩ ⟨k, c, u, x, false⟩ = true then (⟨k, c, u, y, false⟩ : It) else ⟨k, c, u, x, false⟩) = ⟨k, c, u, y, false⟩ := by
                  by_cases hxy : x < y
                  · simp [betB, oneB, hxy]
                  · have : x = y := by omega
                    subst this
                    simp
                rw [hw]
                exact rBest_x _ _ _ _ _ _ ha hb hn hx
              · have hw : betB ⟨k, c, u, y, false⟩ ⟨k, c, u, x, false⟩ = false := by simp [betB, oneB]; omega
                rw [if_neg (by simp [hw])]
                exact rBest_y _ _ _ _ _ _ ha hb hn hx (by simpa using hx)
            · have hw : betB ⟨k, c, u, y, false⟩ ⟨k, c, u, x, true⟩ = false := by simp [betB, oneB]
              rw [if_neg (by simp [hw])]
              exact rBest_g _ _ _ _ _ _ ha hb hn
          · have hw : (if betB ⟨k, c, u, y, true⟩ ⟨k, c, u, x, g⟩ = true then (⟨k, c, u, y, true⟩ : It) else ⟨k, c, u, x, g⟩) = ⟨k, c, u, y, true⟩ := by
              cases g
              · simp [betB, oneB]
              · have h1 := itB_zero ha
                have h2 := itB_zero hb
                subst h1 h2
                simp
            rw [hw]
            exact rBest_h _ _ _ _ _ _ _ ha hb hn
        · have hw : betB ⟨k, c, v, y, h⟩ ⟨k, c, u, x, g⟩ = true := by
            have := newB_or va vb hn (Or.inr hu)
            simp [betB, this]
            omega
          rw [if_pos hw]
          exact rBest_u _ _ _ _ _ _ _ _ _ ha hb hn hu
      · have hw : betB ⟨k, d, v, y, h⟩ ⟨k, c, u, x, g⟩ = true := by
          have := newB_or va vb hn (Or.inl hc)
          simp [betB, this]
          omega
        rw [if_pos hw]
        exact rBest_c _ _ _ _ _ _ _ _ _ _ ha hb hn hc
  · obtain ⟨e1, e2⟩ := bst_no ho
    rw [e1, e2]
    exact rBest_no _ _ _ _ _ _ _ _ _ _ _ ho

end Go.Proofs.Ytmbommkehchchaa
