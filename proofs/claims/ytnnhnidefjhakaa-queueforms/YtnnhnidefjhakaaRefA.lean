
/-
  Contracts of the document's own helpers on lists of places (is it one of them; are all places).
-/
import Derived.Test.YtnnhnidefjhakaaRingRef
import Derived.Test.YtnnhnidefjhakaaLaw0
import Derived.Test.YtnnhnidefjhakaaPlaceMath
namespace Go.Proofs.Ytnnhnidefjhakaa
open Go.ChangeShapes Go.WideShapes Go.ChangeAt Go.RowKit

set_option maxHeartbeats 400000 in
theorem placesMay_any {lo hi : Nat} {w : World} {v : Value} {xs : List Int} (hv : RowI lo hi w v xs) :
    Calls Try.prog 30 #[v] w fun e w' => e = .returned (.bool (plsB xs)) ∧ w' = w := by
  obtain ⟨p, c, rfl, hl, hc, hpx⟩ := hv
  unfold maxLen at hc
  have hn : xs.length ≤ 9223372036854775807 := by omega
  have hp : 0 < xs.length → ∃ b off, p = some ⟨b, off, none⟩ ∧ ∀ j, j < xs.length → w.cell? ⟨b, off + j, none⟩ = some (.int .i64 (xs.getD j 0)) := by
    intro h0
    obtain ⟨b, off, e, h1, _, h3⟩ := hpx (by intro e; simp [e] at h0)
    exact ⟨b, off, e, fun j hj => (h3 j hj).1⟩
  have hin : plsB xs = true ↔ ∀ j, j < xs.length → plB (xs.getD j 0) = true := by
    constructor
    · intro h j hj
      have := plsB_mem h xs[j] (List.getElem_mem hj)
      simpa [List.getD, List.getElem?_eq_getElem hj] using this
    · intro h
      refine plsB_mk fun x hx => ?_
      obtain ⟨j, hj, rfl⟩ := List.mem_iff_getElem.1 hx
      have := h j hj
      simpa [List.getD, List.getElem?_eq_getElem hj] using this
  generalize plsB xs = r at *
  obtain ⟨g, hg⟩ : ∃ g : Nat → Int, ∀ j, xs.getD j 0 = g j := ⟨_, fun _ => rfl⟩
  simp only [hg] at hp hin
  clear hpx hg hl hc
  generalize xs.length = n at *
  go_enter Try.func30, Try.ntmps30
  go_wp2
  go_loop [3] (fun i => ∃ k : Nat, k ≤ n ∧ i = .int .i64 k ∧ (∀ j, j < k → plB (g j) = true)) (fun i => n - (intOf i).toNat)
  case atStart => exact ⟨0, Nat.zero_le _, rfl, fun j hj => absurd hj (Nat.not_lt_zero _)⟩
  case round =>
    obtain ⟨k, hk, rfl, hj⟩ := hrel
    by_cases hlt : k < n
    · obtain ⟨b, off, rfl, h1⟩ := hp (by omega)
      have c1 : w.cell? ⟨b, off + k, none⟩ = some (.int .i64 (g k)) := h1 k hlt
      have hlt' : (k : Int) < (n : Int) := by omega
      clear h1 hp
      by_cases he : plB (g k) = true
      · have hj' : ∀ j, j < k + 1 → plB (g j) = true := fun j hjk => by
          by_cases e : j = k
          · rw [e]; exact he
          · exact hj j (by omega)
        clear hin hj
        go_wp2_with (go_at_call 29; refine (rPlaceMay_any _ _).mono ?_; rintro e w' ⟨rfl, rfl⟩)
        go_round
        case rel => exact ⟨k + 1, by omega, by go_num, hj'⟩
        case measure => simp [intOf]; omega
      · have hrf : r = false := by
          cases hr : r with
          | false => rfl
          | true => exact absurd (hin.1 hr k hlt) he
        have he : plB (g k) = false := by simpa using he
        subst hrf
        clear hin hj
        go_wp2_with (go_at_call 29; refine (rPlaceMay_any _ _).mono ?_; rintro e w' ⟨rfl, rfl⟩)
        go_ret
        exact ⟨rfl, rfl⟩
    · have hrt : r = true := hin.2 fun j hjn => hj j (by omega)
      subst hrt
      clear hin hj hp
      go_wp2
      go_ret
      exact ⟨rfl, rfl⟩

end Go.Proofs.Ytnnhnidefjhakaa
