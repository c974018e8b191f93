
/-
  Contracts of package item's functions and of the document's own answers (may it be; the best of two), at every two items: what they return, and that no old memory has turned.
-/
import Derived.Test.YtnnhnidefjhakaaVer
namespace Go.Proofs.Ytnnhnidefjhakaa
open Go.ChangeShapes Go.WideShapes Go.ChangeAt Go.RowKit

/-! ### Plain items -/
def byB (x : Int) : Bool := decide (0 ≤ x ∧ x ≤ 255)
def itB (i : It) : Bool := byB i.k && (byB i.x && (verB i.c i.u && (!i.g || decide (i.x = 0))))
/-- of one version -/
def oneB (a b : It) : Bool := if a.g = b.g then decide (b.x < a.x) else a.g
/-- is the first better than the second? -/
def betB (a b : It) : Bool := if a.c = b.c ∧ a.u = b.u then oneB a b else newB a.c a.u b.c b.u
def okB (a b : It) : Bool := itB a && (itB b && decide (a.k = b.k))
def bstI (a b : It) : It := if okB a b = true then (if betB b a = true then b else a) else ⟨0, 0, 0, 0, false⟩
def bstE (a b : It) : Int := if okB a b = true then 0 else 400

theorem newB_E {c u d v : Int} (h : newB c u d v = true) : newE c u d v = 0 := by
  simp only [newB, Bool.and_eq_true] at h
  simp [newE, h.1]

/-! ### The functions -/
theorem iIsByte_any (a : Int) (w : World) :
    Calls Try.prog 47 #[.int .i64 a] w fun e w' => e = .returned (.bool (byB a)) ∧ w' = w := by
  by_cases h1 : 0 ≤ a
  · have e : byB a = decide (a ≤ 255) := by simp [byB, h1]
    rw [e]
    clear e
    go_enter Try.func47, Try.ntmps47
    go_wp2
    go_ret
    exact ⟨rfl, rfl⟩
  · have e : byB a = false := by simp [byB, h1]
    have hd : decide (0 ≤ a) = false := by simpa using h1
    rw [e]
    clear e
    go_enter Try.func47, Try.ntmps47
    go_wp2
    go_ret
    exact ⟨rfl, rfl⟩

set_option maxHeartbeats 1000000 in
theorem iMay_any (k c u x : Int) (g : Bool) (w : World) :
    Calls Try.prog 43 #[.agg #[.int .i64 k, .int .i64 c, .int .i64 u, .int .i64 x, .bool g]] w fun e w' => e = .returned (.bool (itB ⟨k, c, u, x, g⟩)) ∧ Below w.heap.size w w' := by
  by_cases hg : g = true ∧ ¬ x = 0
  · obtain ⟨rfl, hx⟩ := hg
    have e : itB ⟨k, c, u, x, true⟩ = false := by simp [itB, hx]
    rw [e]
    clear e
    go_enter Try.func43, Try.ntmps43
    go_wp2_with fail
    go_ret
    exact ⟨rfl, (Below.refl _ w).onA _⟩
  · have e : itB ⟨k, c, u, x, g⟩ = (byB k && (byB x && verB c u)) := by
      cases g <;> simp_all [itB]
    rw [e]
    clear e
    have hg' : g = false ∨ (g = true ∧ x = 0) := by cases g <;> simp_all
    clear hg
    rcases hg' with rfl | ⟨rfl, rfl⟩
    all_goals
      rcases Bool.eq_false_or_eq_true (byB k) with hk | hk
      · rcases Bool.eq_false_or_eq_true (byB _) with hx | hx
        all_goals
          rw [hk, hx]
          have t1 := trivial
          go_enter Try.func43, Try.ntmps43
          go_wp2_with (first
            | (go_at_call 47; clear t1; refine (iIsByte_any _ _).mono ?_; rintro e w' ⟨rfl, hw'⟩; subst w')
            | (go_at_call 47; refine (iIsByte_any _ _).mono ?_; rintro e w' ⟨rfl, hw'⟩; subst w')
            | (go_at_call 48; refine (may_any _ _ _).mono ?_; rintro e w2 ⟨rfl, hb2⟩))
          go_ret
          first
            | exact ⟨by simp, ((Below.refl _ w).onA _).on hb2⟩
            | exact ⟨rfl, (Below.refl _ w).onA _⟩
      · rw [hk]
        go_enter Try.func43, Try.ntmps43
        go_wp2_with (first
            | (go_at_call 47; refine (iIsByte_any _ _).mono ?_; rintro e w' ⟨rfl, hw'⟩; subst w'))
        go_ret
        exact ⟨rfl, (Below.refl _ w).onA _⟩

theorem bst_no {a b : It} (h : okB a b = false) : bstI a b = ⟨0, 0, 0, 0, false⟩ ∧ bstE a b = 400 := by simp [bstI, bstE, h]
theorem bst_yes {a b : It} (h : okB a b = true) : bstI a b = (if betB b a = true then b else a) ∧ bstE a b = 0 := by simp [bstI, bstE, h]

theorem _root_.Go.RowKit.Below.set5 {N b : Nat} {w w' : World} (h : Below N w w') (hb : N ≤ b) (v0 v1 v2 v3 v4 : Value) : Below N w (((((w'.setCell ⟨b, 0, none⟩ v0).setCell ⟨b, 1, none⟩ v1).setCell ⟨b, 2, none⟩ v2).setCell ⟨b, 3, none⟩ v3).setCell ⟨b, 4, none⟩ v4) :=
  ((((h.setCell hb _).setCell hb _).setCell hb _).setCell hb _).setCell hb _
end Go.Proofs.Ytnnhnidefjhakaa
