
/-
  Contracts of the document's own answers for layer 1 (places, distance, within), at every int: what they return, and that memory is untouched.
-/
import Derived.Test.YtpbfhnjdnkmpaaaRing
namespace Go.Proofs.Ytpbfhnjdnkmpaaa
open Go.ChangeShapes Go.WideShapes Go.ChangeAt Go.RowKit

theorem rPlaceMay_any (a : Int) (w : World) :
    Calls Try.prog 21 #[.int .i64 a] w fun e w' => e = .returned (.bool (plB a)) ∧ w' = w := by
  by_cases h0 : 0 ≤ a
  · by_cases h1 : a < 256
    · rw [plB_mk h0 h1]
      go_enter Try.func21, Try.ntmps21
      go_wp2
      go_ret
      exact ⟨rfl, rfl⟩
    · have e : plB a = false := by simp [plB]; omega
      rw [e]
      clear e
      go_enter Try.func21, Try.ntmps21
      go_wp2
      go_ret
      exact ⟨rfl, rfl⟩
  · have e : plB a = false := by simp [plB]; omega
    rw [e]
    clear e
    go_enter Try.func21, Try.ntmps21
    go_wp2
    go_ret
    exact ⟨rfl, rfl⟩

theorem rfar_any (a b : Int) (w : World) (ha : plB a = true) (hb : plB b = true) :
    Calls Try.prog 40 #[.int .i64 a, .int .i64 b] w fun e w' => e = .returned (.int .i64 (far a b)) ∧ w' = w := by
  have ⟨ha0, ha1⟩ := plB_yes ha
  have ⟨hb0, hb1⟩ := plB_yes hb
  clear ha hb
  go_enter Try.func40, Try.ntmps40
  go_wp2
  go_ret
  exact ⟨rfl, rfl⟩
theorem rdistance_yes (a b : Int) (w : World) (ha : plB a = true) (hb : plB b = true) :
    Calls Try.prog 23 #[.int .i64 a, .int .i64 b] w fun e w' => e = .returned (.tuple #[.int .i64 (far a b), .int .i64 0]) ∧ w' = w := by
  go_enter Try.func23, Try.ntmps23
  go_wp2_with (first | (go_at_call 21; refine (rPlaceMay_any _ _).mono ?_; rintro e w' ⟨rfl, rfl⟩) | (go_at_call 40; refine (rfar_any _ _ _ ha hb).mono ?_; rintro e w' ⟨rfl, rfl⟩))
  go_ret2
  exact ⟨rfl, rfl⟩

theorem rdistance_no (a b : Int) (w : World) (h : plB a = false ∨ plB b = false) :
    Calls Try.prog 23 #[.int .i64 a, .int .i64 b] w fun e w' => e = .returned (.tuple #[.int .i64 0, .int .i64 100]) ∧ w' = w := by
  by_cases ha : plB a = true
  · have hb : plB b = false := by rcases h with h | h <;> simp_all
    clear h
    go_enter Try.func23, Try.ntmps23
    go_wp2_with (first | (go_at_call 21; refine (rPlaceMay_any _ _).mono ?_; rintro e w' ⟨rfl, rfl⟩))
    go_ret2
    exact ⟨rfl, rfl⟩
  · have ha : plB a = false := by simpa using ha
    clear h
    go_enter Try.func23, Try.ntmps23
    go_wp2_with (first | (go_at_call 21; refine (rPlaceMay_any _ _).mono ?_; rintro e w' ⟨rfl, rfl⟩))
    go_ret2
    exact ⟨rfl, rfl⟩

theorem rwithin_yes (a x b : Int) (w : World) (ha : plB a = true) (hx : plB x = true) (hb : plB b = true) :
    Calls Try.prog 22 #[.int .i64 a, .int .i64 x, .int .i64 b] w fun e w' => e = .returned (.tuple #[.bool (inB a x b), .int .i64 0]) ∧ w' = w := by
  by_cases h1 : a = b
  · have e : inB a x b = true := by simp [inB, h1]
    rw [e]
    clear e
    subst h1
    go_enter Try.func22, Try.ntmps22
    go_wp2_with (first | (go_at_call 21; refine (rPlaceMay_any _ _).mono ?_; rintro e w' ⟨rfl, rfl⟩))
    go_ret2
    exact ⟨rfl, rfl⟩
  · have hab : (a == b) = false := by simpa using h1
    by_cases h2 : 0 < far a x
    · by_cases h3 : far a x ≤ far a b
      · have e : inB a x b = true := by simp [inB, h1, h2, h3]
        rw [e]
        clear e
        go_enter Try.func22, Try.ntmps22
        go_wp2_with (first | (go_at_call 21; refine (rPlaceMay_any _ _).mono ?_; rintro e w' ⟨rfl, rfl⟩) | (go_at_call 40; refine (rfar_any _ _ _ (by assumption) (by assumption)).mono ?_; rintro e w' ⟨rfl, rfl⟩))
        go_ret2
        exact ⟨rfl, rfl⟩
      · have e : inB a x b = false := by simp [inB, h1, h3]
        have hd : decide (far a x ≤ far a b) = false := by simpa using h3
        rw [e]
        clear e
        go_enter Try.func22, Try.ntmps22
        go_wp2_with (first | (go_at_call 21; refine (rPlaceMay_any _ _).mono ?_; rintro e w' ⟨rfl, rfl⟩) | (go_at_call 40; refine (rfar_any _ _ _ (by assumption) (by assumption)).mono ?_; rintro e w' ⟨rfl, rfl⟩))
        go_ret2
        exact ⟨rfl, rfl⟩
    · have e : inB a x b = false := by simp [inB, h1, h2]
      rw [e]
      clear e
      go_enter Try.func22, Try.ntmps22
      go_wp2_with (first | (go_at_call 21; refine (rPlaceMay_any _ _).mono ?_; rintro e w' ⟨rfl, rfl⟩) | (go_at_call 40; refine (rfar_any _ _ _ (by assumption) (by assumption)).mono ?_; rintro e w' ⟨rfl, rfl⟩))
      go_ret2
      exact ⟨rfl, rfl⟩

theorem rwithin_no (a x b : Int) (w : World) (h : plB a = false ∨ plB x = false ∨ plB b = false) :
    Calls Try.prog 22 #[.int .i64 a, .int .i64 x, .int .i64 b] w fun e w' => e = .returned (.tuple #[.bool false, .int .i64 100]) ∧ w' = w := by
  by_cases ha : plB a = true
  · by_cases hx : plB x = true
    · have hb : plB b = false := by rcases h with h | h | h <;> simp_all
      clear h
      go_enter Try.func22, Try.ntmps22
      go_wp2_with (first | (go_at_call 21; refine (rPlaceMay_any _ _).mono ?_; rintro e w' ⟨rfl, rfl⟩))
      go_ret2
      exact ⟨rfl, rfl⟩
    · have hx : plB x = false := by simpa using hx
      clear h
      go_enter Try.func22, Try.ntmps22
      go_wp2_with (first | (go_at_call 21; refine (rPlaceMay_any _ _).mono ?_; rintro e w' ⟨rfl, rfl⟩))
      go_ret2
      exact ⟨rfl, rfl⟩
  · have ha : plB a = false := by simpa using ha
    clear h
    go_enter Try.func22, Try.ntmps22
    go_wp2_with (first | (go_at_call 21; refine (rPlaceMay_any _ _).mono ?_; rintro e w' ⟨rfl, rfl⟩))
    go_ret2
    exact ⟨rfl, rfl⟩
end Go.Proofs.Ytpbfhnjdnkmpaaa
