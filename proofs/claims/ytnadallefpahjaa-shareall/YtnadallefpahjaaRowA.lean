
/-
  Contracts of package row's small functions: no place, the list without the base, the order by distance.
-/
import Derived.Test.YtnadallefpahjaaPlaceMath
import Derived.Test.YtnadallefpahjaaCmp
import Derived.Test.YtnadallefpahjaaLaw0
import Derived.Test.YtnadallefpahjaaRowMath
namespace Go.Proofs.Ytnadallefpahjaa
open Go.ChangeShapes Go.WideShapes Go.ChangeAt Go.RowKit

theorem isNoPlace_any (x : Int) (w : World) :
    Calls Try.prog 86 #[.int .i64 x] w fun e w' => e = .returned (.bool (!plB x)) ∧ w' = w := by
  by_cases h : plB x = true
  · rw [h]
    go_enter Try.func86, Try.ntmps86
    go_wp2_with (go_at_call 83; refine (distance_yes _ _ _ h h).mono ?_; rintro e w' ⟨rfl, rfl⟩)
    go_ret
    exact ⟨rfl, rfl⟩
  · have h : plB x = false := by simpa using h
    rw [h]
    go_enter Try.func86, Try.ntmps86
    go_wp2_with (go_at_call 83; refine (distance_no _ _ _ (.inl h)).mono ?_; rintro e w' ⟨rfl, rfl⟩)
    go_ret
    exact ⟨rfl, rfl⟩

/-- The closure: two places by their distance from the base, which lies in its own cell. -/
theorem byDistance1_any (b x y : Int) (B : Nat) (w : World) (hb : plB b = true) (hx : plB x = true) (hy : plB y = true) (hc : w.cell? ⟨B, 0, none⟩ = some (.int .i64 b)) :
    Calls Try.prog 87 #[.int .i64 x, .int .i64 y, .pointer (some ⟨B, 0, none⟩)] w fun e w' => e = .returned (.int .i64 (cmpI (far b x) (far b y))) ∧ w' = w := by
  go_enter Try.func87, Try.ntmps87
  go_wp2_with (first | (go_at_call 83; refine (distance_yes _ _ _ (by assumption) (by assumption)).mono ?_; rintro e w' ⟨rfl, hw'⟩; subst w') | (go_at_call 88; refine (compare_any _ _ _).mono ?_; rintro e w' ⟨rfl, hw'⟩; subst w'))
  go_ret
  exact ⟨rfl, rfl⟩

theorem byDistance_any (b : Int) (w : World) :
    Calls Try.prog 82 #[.int .i64 b] w fun e w' => e = .returned (.func (.func 87) #[] #[.pointer (some ⟨w.heap.size, 0, none⟩)]) ∧ w' = w.alloc (.cells #[.int .i64 b] 3) := by
  go_enter Try.func82, Try.ntmps82
  go_wp2
  go_ret
  exact ⟨rfl, rfl⟩

end Go.Proofs.Ytnadallefpahjaa
