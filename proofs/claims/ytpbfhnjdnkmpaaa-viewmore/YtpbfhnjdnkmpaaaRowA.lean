
/-
  Contracts of package row's small functions: no place, the list without the base, the order by distance.
-/
import Derived.Test.YtpbfhnjdnkmpaaaRing
import Derived.Test.YtpbfhnjdnkmpaaaCmp
import Derived.Test.YtpbfhnjdnkmpaaaLaw0
import Derived.Test.YtpbfhnjdnkmpaaaRowMath
namespace Go.Proofs.Ytpbfhnjdnkmpaaa
open Go.ChangeShapes Go.WideShapes Go.ChangeAt Go.RowKit

theorem isNoPlace_any (x : Int) (w : World) :
    Calls Try.prog 52 #[.int .i64 x] w fun e w' => e = .returned (.bool (!plB x)) ∧ w' = w := by
  by_cases h : plB x = true
  · rw [h]
    go_enter Try.func52, Try.ntmps52
    go_wp2_with (go_at_call 54; refine (distance_yes _ _ _ h h).mono ?_; rintro e w' ⟨rfl, rfl⟩)
    go_ret
    exact ⟨rfl, rfl⟩
  · have h : plB x = false := by simpa using h
    rw [h]
    go_enter Try.func52, Try.ntmps52
    go_wp2_with (go_at_call 54; refine (distance_no _ _ _ (.inl h)).mono ?_; rintro e w' ⟨rfl, rfl⟩)
    go_ret
    exact ⟨rfl, rfl⟩

/-- The closure: two places by their distance from the base, which lies in its own cell. -/
theorem byDistance1_any (b x y : Int) (B : Nat) (w : World) (hb : plB b = true) (hx : plB x = true) (hy : plB y = true) (hc : w.cell? ⟨B, 0, none⟩ = some (.int .i64 b)) :
    Calls Try.prog 53 #[.int .i64 x, .int .i64 y, .pointer (some ⟨B, 0, none⟩)] w fun e w' => e = .returned (.int .i64 (cmpI (far b x) (far b y))) ∧ w' = w := by
  go_enter Try.func53, Try.ntmps53
  go_wp2_with (first | (go_at_call 54; refine (distance_yes _ _ _ (by assumption) (by assumption)).mono ?_; rintro e w' ⟨rfl, hw'⟩; subst w') | (go_at_call 55; refine (compare_any _ _ _).mono ?_; rintro e w' ⟨rfl, hw'⟩; subst w'))
  go_ret
  exact ⟨rfl, rfl⟩

theorem byDistance_any (b : Int) (w : World) :
    Calls Try.prog 43 #[.int .i64 b] w fun e w' => e = .returned (.func (.func 53) #[] #[.pointer (some ⟨w.heap.size, 0, none⟩)]) ∧ w' = w.alloc (.cells #[.int .i64 b] 3) := by
  go_enter Try.func43, Try.ntmps43
  go_wp2
  go_ret
  exact ⟨rfl, rfl⟩

def others (b : Int) (xs : List Int) : List Int := xs.filter fun x => decide (x ≠ b)
theorem others_take (b : Int) (xs : List Int) (k : Nat) (hk : k < xs.length) : others b (xs.take (k + 1)) = others b (xs.take k) ++ (if xs.getD k 0 ≠ b then [xs.getD k 0] else []) := by
  unfold others
  rw [List.take_succ_eq_append_getElem hk, List.filter_append]
  have e : xs.getD k 0 = xs[k] := by simp [List.getD, List.getElem?_eq_getElem hk]
  rw [e]
  by_cases h : xs[k] ≠ b <;> simp [h]
theorem others_le (b : Int) (xs : List Int) : (others b xs).length ≤ xs.length := List.length_filter_le _ _

end Go.Proofs.Ytpbfhnjdnkmpaaa
