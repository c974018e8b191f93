
/-
  Contracts of the document's own answers about items (may it be; the best of two), at every two items.
-/
import Derived.Test.YtnnhnidefjhakaaItem
namespace Go.Proofs.Ytnnhnidefjhakaa
open Go.ChangeShapes Go.WideShapes Go.ChangeAt Go.RowKit

theorem itB_ver {k c u x : Int} {g : Bool} (h : itB ⟨k, c, u, x, g⟩ = true) : verB c u = true := by
  simp only [itB, Bool.and_eq_true] at h
  exact h.2.2.1
theorem itB_zero {k c u x : Int} (h : itB ⟨k, c, u, x, true⟩ = true) : x = 0 := by
  simp [itB] at h
  exact h.2.2.2
theorem newB_or {c u d v : Int} (h1 : verB c u = true) (h2 : verB d v = true) (h : newB c u d v = false) (hn : ¬ c = d ∨ ¬ u = v) : newB d v c u = true := by
  simp [newB, h1, h2, gtB] at h ⊢
  omega

theorem rByte_any (a : Int) (w : World) :
    Calls Try.prog 38 #[.int .i64 a] w fun e w' => e = .returned (.bool (byB a)) ∧ w' = w := by
  by_cases h1 : 0 ≤ a
  · have e : byB a = decide (a ≤ 255) := by simp [byB, h1]
    rw [e]
    clear e
    go_enter Try.func38, Try.ntmps38
    go_wp2
    go_ret
    exact ⟨rfl, rfl⟩
  · have e : byB a = false := by simp [byB, h1]
    have hd : decide (0 ≤ a) = false := by simpa using h1
    rw [e]
    clear e
    go_enter Try.func38, Try.ntmps38
    go_wp2
    go_ret
    exact ⟨rfl, rfl⟩

set_option maxHeartbeats 1000000 in
theorem rIMay_any (k c u x : Int) (g : Bool) (w : World) :
    Calls Try.prog 31 #[.agg #[.int .i64 k, .int .i64 c, .int .i64 u, .int .i64 x, .bool g]] w fun e w' => e = .returned (.bool (itB ⟨k, c, u, x, g⟩)) ∧ Below w.heap.size w w' := by
  have t1 := trivial
  simp only [itB]
  rcases Bool.eq_false_or_eq_true (byB k) with hk | hk
  · rcases Bool.eq_false_or_eq_true (byB x) with hx | hx
    · rcases Bool.eq_false_or_eq_true (verB c u) with hv | hv
      · cases g
        all_goals
          rw [hk, hx, hv]
          go_enter Try.func31, Try.ntmps31
          go_wp2_with (first
            | (go_at_call 38; clear t1; refine (rByte_any _ _).mono ?_; rintro e w' ⟨rfl, hw'⟩; subst w')
            | (go_at_call 38; refine (rByte_any _ _).mono ?_; rintro e w' ⟨rfl, hw'⟩; subst w')
            | (go_at_call 39; refine (rMay_any _ _ _).mono ?_; rintro e w2 ⟨rfl, hb2⟩; obtain ⟨hc2, hf2⟩ := bcell hb2))
          go_ret
          exact ⟨by first | rfl | simp, ((Below.refl _ w).onA _).on hb2⟩
      · rw [hk, hx, hv]
        go_enter Try.func31, Try.ntmps31
        go_wp2_with (first
          | (go_at_call 38; clear t1; refine (rByte_any _ _).mono ?_; rintro e w' ⟨rfl, hw'⟩; subst w')
          | (go_at_call 38; refine (rByte_any _ _).mono ?_; rintro e w' ⟨rfl, hw'⟩; subst w')
          | (go_at_call 39; refine (rMay_any _ _ _).mono ?_; rintro e w2 ⟨rfl, hb2⟩))
        go_ret
        exact ⟨rfl, ((Below.refl _ w).onA _).on hb2⟩
    · rw [hk, hx]
      go_enter Try.func31, Try.ntmps31
      go_wp2_with (first
        | (go_at_call 38; clear t1; refine (rByte_any _ _).mono ?_; rintro e w' ⟨rfl, hw'⟩; subst w')
        | (go_at_call 38; refine (rByte_any _ _).mono ?_; rintro e w' ⟨rfl, hw'⟩; subst w'))
      go_ret
      exact ⟨rfl, (Below.refl _ w).onA _⟩
  · rw [hk]
    go_enter Try.func31, Try.ntmps31
    go_wp2_with (first
      | (go_at_call 38; refine (rByte_any _ _).mono ?_; rintro e w' ⟨rfl, hw'⟩; subst w'))
    go_ret
    exact ⟨rfl, (Below.refl _ w).onA _⟩


end Go.Proofs.Ytnnhnidefjhakaa
