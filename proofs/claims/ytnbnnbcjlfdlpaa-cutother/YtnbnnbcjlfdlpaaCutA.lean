
/-
  Contracts of package cuts' small functions: two unlike places; a cut that may not be; which of two comes first; the cut of two places; is it this one.
-/
import Derived.Test.YtnbnnbcjlfdlpaaCutRow
import Derived.Test.YtnbnnbcjlfdlpaaCmp
namespace Go.Proofs.Ytnbnnbcjlfdlpaa
open Go.ChangeShapes Go.WideShapes Go.ChangeAt Go.RowKit

/-- Two unlike places. -/
def unB (a b : Int) : Bool := plB a && (plB b && !decide (a = b))
theorem cOk_un (cs : List Cu) (a b : Int) : cOk cs a b = (csB cs && unB a b) := rfl

theorem uUnlike_any (a b : Int) (w : World) :
    Calls Try.prog 22 #[.int .i64 a, .int .i64 b] w fun e w' => e = .returned (.bool (unB a b)) ∧ w' = w := by
  cases ha : plB a with
  | true =>
    cases hb : plB b with
    | true =>
      by_cases he : a = b
      · have e1 : unB a b = false := by simp [unB, he]
        have e2 : far a b = 0 := by rw [he]; exact far_self b
        have HD := distance_yes a b w ha hb
        rw [e2] at HD
        rw [e1]
        clear e1 e2 ha hb he
        go_enter Try.func22, Try.ntmps22
        go_wp2_with (first | (go_at_call 32; refine HD.mono ?_; rintro e w' ⟨rfl, hw'⟩; subst w'))
        go_ret
        exact ⟨rfl, rfl⟩
      · have e1 : unB a b = true := by simp [unB, ha, hb, he]
        have e2 : ¬ far a b = 0 := fun e => he (far_zero ha hb e).symm
        have e3 : (far a b == 0) = false := by simpa using e2
        have e4 : (far a b != 0) = true := by simpa using e2
        have HD := distance_yes a b w ha hb
        generalize far a b = q at *
        rw [e1]
        clear e1 ha hb he
        go_enter Try.func22, Try.ntmps22
        go_wp2_with (first | (go_at_call 32; refine HD.mono ?_; rintro e w' ⟨rfl, hw'⟩; subst w'))
        go_ret
        exact ⟨rfl, rfl⟩
    | false =>
      have e1 : unB a b = false := by simp [unB, hb]
      rw [e1]
      clear e1 ha
      go_enter Try.func22, Try.ntmps22
      go_wp2_with (first | (go_at_call 32; refine (distance_no _ _ _ (.inr hb)).mono ?_; rintro e w' ⟨rfl, hw'⟩; subst w'))
      go_ret
      exact ⟨rfl, rfl⟩
  | false =>
    have e1 : unB a b = false := by simp [unB, ha]
    rw [e1]
    clear e1
    go_enter Try.func22, Try.ntmps22
    go_wp2_with (first | (go_at_call 32; refine (distance_no _ _ _ (.inl ha)).mono ?_; rintro e w' ⟨rfl, hw'⟩; subst w'))
    go_ret
    exact ⟨rfl, rfl⟩

theorem uNot_any (a b : Int) (w : World) :
    Calls Try.prog 30 #[.agg #[.int .i64 a, .int .i64 b]] w fun e w' => e = .returned (.bool (!cuB ⟨a, b⟩)) ∧ Below w.heap.size w w' := by
  by_cases hl : b ≤ a
  · have e1 : cuB ⟨a, b⟩ = false := by simp [cuB]; intro _ _; omega
    have hd : decide (b ≤ a) = true := decide_eq_true hl
    rw [e1]
    clear e1
    go_enter Try.func30, Try.ntmps30
    go_wp2
    go_ret
    exact ⟨rfl, (Below.refl _ w).onA _⟩
  · have hd : decide (b ≤ a) = false := decide_eq_false hl
    have e1 : cuB ⟨a, b⟩ = unB a b := by
      have h1 : a < b := by omega
      have h2 : ¬ a = b := by omega
      simp [cuB, unB, h1, h2]
    rw [e1]
    clear e1
    obtain ⟨r, hr⟩ : ∃ r, unB a b = r := ⟨_, rfl⟩
    have HU : ∀ w, Calls Try.prog 22 #[.int .i64 a, .int .i64 b] w fun e w' => e = .returned (.bool r) ∧ w' = w := fun w => hr ▸ uUnlike_any a b w
    rw [hr]
    replace HU := toHid HU
    clear hr
    go_enter Try.func30, Try.ntmps30
    go_wp2_with (first | (go_at_call 22; refine (HU.out _).mono ?_; rintro e w' ⟨rfl, hw'⟩; subst w'))
    go_ret
    exact ⟨by simp, (Below.refl _ w).onA _⟩

/-- Which of two cuts comes first. -/
def cmpC (c d : Cu) : Int := if c.a = d.a then cmpI c.b d.b else cmpI c.a d.a
theorem cmpI_lt {x y : Int} : cmpI x y < 0 ↔ x < y := by unfold cmpI; split <;> (try split) <;> constructor <;> intro <;> omega
theorem cmpI_eq {x y : Int} : cmpI x y = 0 ↔ x = y := by unfold cmpI; split <;> (try split) <;> constructor <;> intro <;> omega
theorem cmpC_lt {c d : Cu} (h1 : cuB c = true) (h2 : cuB d = true) : cmpC c d < 0 ↔ cuK c < cuK d := by
  have a1 := cu_in h1
  have a2 := cu_in h2
  unfold cmpC cuK
  split
  · rw [cmpI_lt]; omega
  · rw [cmpI_lt]; omega
theorem cmpC_eq {c d : Cu} : cmpC c d = 0 ↔ c = d := by
  obtain ⟨a, b⟩ := c
  obtain ⟨a', b'⟩ := d
  unfold cmpC
  dsimp only
  split
  · rename_i h
    subst h
    rw [cmpI_eq]
    simp
  · rename_i h
    rw [cmpI_eq]
    constructor
    · intro e; exact absurd e h
    · intro e; exact absurd (Cu.mk.inj e).1 h

theorem uCompare_any (a b a' b' : Int) (w : World) :
    Calls Try.prog 34 #[.agg #[.int .i64 a, .int .i64 b], .agg #[.int .i64 a', .int .i64 b']] w fun e w' => e = .returned (.int .i64 (cmpC ⟨a, b⟩ ⟨a', b'⟩)) ∧ Below w.heap.size w w' := by
  by_cases h : a = a'
  · have e1 : cmpC ⟨a, b⟩ ⟨a', b'⟩ = cmpI b b' := by simp [cmpC, h]
    rw [e1]
    clear e1
    subst h
    go_enter Try.func34, Try.ntmps34
    go_wp2_with (first | (go_at_call 40; refine (compare_any _ _ _).mono ?_; rintro e w' ⟨rfl, hw'⟩; subst w'))
    go_ret
    exact ⟨rfl, ((Below.refl _ w).onA _).onA _⟩
  · have e1 : cmpC ⟨a, b⟩ ⟨a', b'⟩ = cmpI a a' := by simp [cmpC, h]
    rw [e1]
    clear e1
    go_enter Try.func34, Try.ntmps34
    go_wp2_with (first | (go_at_call 40; refine (compare_any _ _ _).mono ?_; rintro e w' ⟨rfl, hw'⟩; subst w'))
    go_ret
    exact ⟨rfl, ((Below.refl _ w).onA _).onA _⟩

theorem uBetween_any (a b : Int) (w : World) :
    Calls Try.prog 23 #[.int .i64 a, .int .i64 b] w fun e w' => e = .returned (.agg #[.int .i64 (mkC a b).a, .int .i64 (mkC a b).b]) ∧ Below w.heap.size w w' := by
  have e1 : (mkC a b).a = min a b := rfl
  have e2 : (mkC a b).b = max a b := rfl
  rw [e1, e2]
  clear e1 e2
  rcases Int.lt_trichotomy a b with h | rfl | h
  · have m1 : min a b = a := by omega
    have m2 : max a b = b := by omega
    have n1 : ¬ b ≤ a := by omega
    rw [m1, m2]
    go_enter Try.func23, Try.ntmps23
    go_wp2
    refine bodyPost_ret (v := .agg #[.int .i64 a, .int .i64 b]) (by simp [results, Try.results23, go_sem]) rfl ?_
    exact ⟨rfl, (Below.refl _ w).onA _⟩
  · have m1 : min a a = a := by omega
    have m2 : max a a = a := by omega
    rw [m1, m2]
    go_enter Try.func23, Try.ntmps23
    go_wp2
    refine bodyPost_ret (v := .agg #[.int .i64 a, .int .i64 a]) (by simp [results, Try.results23, go_sem]) rfl ?_
    exact ⟨rfl, (Below.refl _ w).onA _⟩
  · have m1 : min a b = b := by omega
    have m2 : max a b = a := by omega
    have n1 : ¬ a ≤ b := by omega
    rw [m1, m2]
    go_enter Try.func23, Try.ntmps23
    go_wp2
    refine bodyPost_ret (v := .agg #[.int .i64 b, .int .i64 a]) (by simp [results, Try.results23, go_sem]) rfl ?_
    exact ⟨rfl, (Below.refl _ w).onA _⟩

/-- Is it this one? (d stands in block B.) -/
theorem uIs_any (d : Cu) (a b : Int) (B : Nat) (w : World) (hc : CuAt w B 0 d) (hB : B < w.heap.size) :
    Calls Try.prog 36 #[.agg #[.int .i64 a, .int .i64 b], .pointer (some ⟨B, 0, none⟩)] w fun e w' => e = .returned (.bool (decide ((⟨a, b⟩ : Cu) = d))) ∧ Below w.heap.size w w' := by
  obtain ⟨c1, c2⟩ := hc
  obtain ⟨a', b'⟩ := d
  dsimp only at c1 c2
  by_cases h : (⟨a, b⟩ : Cu) = ⟨a', b'⟩
  · rw [decide_eq_true h]
    obtain ⟨rfl, rfl⟩ := Cu.mk.inj h
    clear h
    go_enter Try.func36, Try.ntmps36
    go_wp2
    go_ret
    exact ⟨rfl, (Below.refl _ w).onA _⟩
  · rw [decide_eq_false h]
    rcases Cu.ne h with h7 | ⟨h7, h8⟩
    all_goals
      clear h
      go_enter Try.func36, Try.ntmps36
      go_wp2
      go_ret
      exact ⟨rfl, (Below.refl _ w).onA _⟩

end Go.Proofs.Ytnbnnbcjlfdlpaa
