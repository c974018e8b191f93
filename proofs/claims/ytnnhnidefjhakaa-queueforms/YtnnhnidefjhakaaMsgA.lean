
/-
  Contracts of package msg's functions (no place; no item; may they be named; may it greet, bring, ask, tell; may it be), at every message: what they return, and that no old memory has turned.
-/
import Derived.Test.YtnnhnidefjhakaaMsgMath
import Derived.Test.YtnnhnidefjhakaaContLays
import Derived.Test.YtnnhnidefjhakaaIntRow
namespace Go.Proofs.Ytnnhnidefjhakaa
open Go.ChangeShapes Go.WideShapes Go.ChangeAt Go.RowKit Go.Shelf Go.Lib

theorem mNo_any (x : Int) (w : World) :
    Calls Try.prog 33 #[.int .i64 x] w fun e w' => e = .returned (.bool (!plB x)) ∧ w' = w := by
  rcases Bool.eq_false_or_eq_true (plB x) with h | h
  · rw [h]
    go_enter Try.func33, Try.ntmps33
    go_wp2_with (go_at_call 40; refine (distance_yes _ _ _ h h).mono ?_; rintro e w' ⟨rfl, hw'⟩; subst w')
    go_ret
    exact ⟨rfl, rfl⟩
  · rw [h]
    go_enter Try.func33, Try.ntmps33
    go_wp2_with (go_at_call 40; refine (distance_no _ _ _ (.inl h)).mono ?_; rintro e w' ⟨rfl, hw'⟩; subst w')
    go_ret
    exact ⟨rfl, rfl⟩

theorem mContains_any {lo hi : Nat} {w : World} {v : Value} {xs : List Int} (hv : RowI lo hi w v xs) :
    Calls Try.prog 46 #[v, .func (.func 33) #[] #[]] w fun e w' => e = .returned (.bool (!plsB xs)) ∧ ∃ q, w' = w.drewN q := by
  have hmax := hv.max
  unfold maxLen at hmax
  obtain ⟨p, c, rfl, hl, hc, hpx⟩ := hv
  by_cases h0 : xs = []
  · subst h0
    exact (AnyE.slices_ContainsFunc_empty containsL p c _ w).mono fun e w' ⟨he, hw⟩ => ⟨he, 0, hw⟩
  · obtain ⟨b, off, rfl, _, _, h3⟩ := hpx h0
    have eg : ∀ args w, (callFunc 33 args).run Try.prog w = .ok (.enter 33 args) w := enters_of Try.func33 (by kernel_rfl) rfl
    have hp : PredAt Try.prog 33 #[] (Value.int .i64) (fun x => !plB x) w := fun W x _ => by
      unfold FnGives
      exact (mNo_any x W).mono fun e w' ⟨he, hw⟩ => ⟨he, 0, hw⟩
    have h := AnyE.slices_ContainsFunc containsL (Value.int .i64) (fun x => !plB x) 33 #[] eg b off xs.length c xs w hp (Nat.le_refl _) (by omega)
      (fun j hj => by rw [(h3 j hj).1, getElem!_pos xs j hj]; simp [List.getD, List.getElem?_eq_getElem hj])
    rw [List.take_length, any_not_plB] at h
    exact h

theorem mNamed_any {lo hi : Nat} {w : World} {v : Value} {xs : List Int} (hx : RowI lo hi w v xs) :
    Calls Try.prog 41 #[v] w fun e w' => e = .returned (.bool (nmdB xs)) ∧ Below w.heap.size w w' := by
  have H1 := mContains_any hx
  obtain ⟨p, c, rfl, hl, hc, -⟩ := hx
  by_cases hl : xs.length ≤ 16
  · have hl1 : (xs.length : Int) ≤ 16 := by omega
    have e : nmdB xs = plsB xs := by simp [nmdB, hl]
    rw [e]
    clear e
    generalize plsB xs = r1 at *
    go_enter Try.func41, Try.ntmps41
    go_wp2_with (first
      | (go_at_call 46; refine H1.mono ?_; rintro e w' ⟨rfl, q, hw'⟩; subst w'))
    go_ret
    exact ⟨by simp, (Below.refl _ w).onD q⟩
  · have e : nmdB xs = false := by simp [nmdB, hl]
    rw [e]
    clear e H1
    have hl1 : ¬ (xs.length : Int) ≤ 16 := by omega
    have hd : decide ((xs.length : Int) ≤ 16) = false := decide_eq_false hl1
    go_enter Try.func41, Try.ntmps41
    go_wp2
    go_ret
    exact ⟨rfl, Below.refl _ w⟩

theorem mZero_any (k c u x : Int) (g : Bool) (w : World) :
    Calls Try.prog 42 #[.agg #[.int .i64 k, .int .i64 c, .int .i64 u, .int .i64 x, .bool g]] w fun e w' => e = .returned (.bool (zeB ⟨k, c, u, x, g⟩)) ∧ Below w.heap.size w w' := by
  by_cases h : (⟨k, c, u, x, g⟩ : It) = ⟨0, 0, 0, 0, false⟩
  · have e : zeB ⟨k, c, u, x, g⟩ = true := by simpa [zeB] using h
    rw [e]
    clear e
    cases h
    go_enter Try.func42, Try.ntmps42
    go_wp2
    go_ret
    exact ⟨rfl, (Below.refl _ w).onA _⟩
  · have e : zeB ⟨k, c, u, x, g⟩ = false := by simpa [zeB] using h
    rw [e]
    clear e
    rcases ne_first h with hd | ⟨rfl, hd⟩ | ⟨rfl, rfl, hd⟩ | ⟨rfl, rfl, rfl, hd⟩ | ⟨rfl, rfl, rfl, rfl, rfl⟩
    all_goals
      clear h
      go_enter Try.func42, Try.ntmps42
      go_wp2
      go_ret
      exact ⟨rfl, (Below.refl _ w).onA _⟩

end Go.Proofs.Ytnnhnidefjhakaa
