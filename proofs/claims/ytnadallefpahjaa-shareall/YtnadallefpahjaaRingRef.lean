
/-
  Contracts of the document's own answers for layer 1 (places, distance, within), at every int: what they return, and that memory is untouched.
-/
import Derived.Test.YtnadallefpahjaaPlaceMath
namespace Go.Proofs.Ytnadallefpahjaa
open Go.ChangeShapes Go.WideShapes Go.ChangeAt Go.RowKit

theorem rPlaceMay_any (a : Int) (w : World) :
    Calls Try.prog 33 #[.int .i64 a] w fun e w' => e = .returned (.bool (plB a)) ∧ w' = w := by
  by_cases h0 : 0 ≤ a
  · by_cases h1 : a < 256
    · rw [plB_mk h0 h1]
      go_enter Try.func33, Try.ntmps33
      go_wp2
      go_ret
      exact ⟨rfl, rfl⟩
    · have e : plB a = false := by simp [plB]; omega
      rw [e]
      clear e
      go_enter Try.func33, Try.ntmps33
      go_wp2
      go_ret
      exact ⟨rfl, rfl⟩
  · have e : plB a = false := by simp [plB]; omega
    rw [e]
    clear e
    go_enter Try.func33, Try.ntmps33
    go_wp2
    go_ret
    exact ⟨rfl, rfl⟩

theorem rfar_any (a b : Int) (w : World) (ha : plB a = true) (hb : plB b = true) :
    Calls Try.prog 56 #[.int .i64 a, .int .i64 b] w fun e w' => e = .returned (.int .i64 (far a b)) ∧ w' = w := by
  have ⟨ha0, ha1⟩ := plB_yes ha
  have ⟨hb0, hb1⟩ := plB_yes hb
  clear ha hb
  go_enter Try.func56, Try.ntmps56
  go_wp2
  go_ret
  exact ⟨rfl, rfl⟩
end Go.Proofs.Ytnadallefpahjaa
