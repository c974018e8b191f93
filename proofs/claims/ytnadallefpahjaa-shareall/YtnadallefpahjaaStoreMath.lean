
/-
  Contracts of package version's functions and of the document's own answers (may it be; is it newer), at every two numbers each: what they return, and that no old memory has turned.
-/
import Derived.Test.YtnadallefpahjaaPlaceMath
import Derived.Test.YtnadallefpahjaaRingRef
import Derived.Test.YtnadallefpahjaaBase
import Derived.Test.YtnadallefpahjaaOld
namespace Go.Proofs.Ytnadallefpahjaa
open Go.ChangeShapes Go.WideShapes Go.ChangeAt Go.RowKit

/-! ### Plain numbers -/
def cntB (c : Int) : Bool := decide (1 ≤ c ∧ c ≤ 65535)
def verB (c u : Int) : Bool := cntB c && plB u
def gtB (c u d v : Int) : Bool := decide (d < c) || (decide (c = d) && decide (v < u))
def newB (c u d v : Int) : Bool := (verB c u && verB d v) && gtB c u d v
def newE (c u d v : Int) : Int := if (verB c u && verB d v) = true then 0 else 300

theorem newB_yes {c u d v : Int} (h1 : verB c u = true) (h2 : verB d v = true) : newB c u d v = gtB c u d v ∧ newE c u d v = 0 := by simp [newB, newE, h1, h2]
theorem newB_no {c u d v : Int} (h : verB c u = false ∨ verB d v = false) : newB c u d v = false ∧ newE c u d v = 300 := by
  rcases h with h | h <;> simp [newB, newE, h]

/-! ### The functions -/
theorem vIsPlace_any (a : Int) (w : World) :
    Calls Try.prog 91 #[.int .i64 a] w fun e w' => e = .returned (.bool (plB a)) ∧ w' = w := by
  by_cases h : plB a = true
  · rw [h]
    go_enter Try.func91, Try.ntmps91
    go_wp2_with (first | (go_at_call 83; refine (distance_yes _ _ _ h h).mono ?_; rintro e w' ⟨rfl, rfl⟩))
    go_ret
    exact ⟨rfl, rfl⟩
  · have h : plB a = false := by simpa using h
    rw [h]
    go_enter Try.func91, Try.ntmps91
    go_wp2_with (first | (go_at_call 83; refine (distance_no _ _ _ (Or.inl h)).mono ?_; rintro e w' ⟨rfl, rfl⟩))
    go_ret
    exact ⟨rfl, rfl⟩

theorem may_any (c u : Int) (w : World) :
    Calls Try.prog 85 #[.agg #[.int .i64 c, .int .i64 u]] w fun e w' => e = .returned (.bool (verB c u)) ∧ Below w.heap.size w w' := by
  by_cases h1 : 1 ≤ c
  · by_cases h2 : c ≤ 65535
    · have e : verB c u = plB u := by simp [verB, cntB, h1, h2]
      rw [e]
      clear e
      go_enter Try.func85, Try.ntmps85
      go_wp2_with (first | (go_at_call 91; refine (vIsPlace_any _ _).mono ?_; rintro e w' ⟨rfl, hw'⟩; subst w'))
      go_ret
      exact ⟨rfl, (Below.refl _ w).onA _⟩
    · have e : verB c u = false := by simp [verB, cntB, h2]
      have hd : decide (c ≤ 65535) = false := by simpa using h2
      rw [e]
      clear e
      go_enter Try.func85, Try.ntmps85
      go_wp2_with fail
      go_ret
      exact ⟨rfl, (Below.refl _ w).onA _⟩
  · have e : verB c u = false := by simp [verB, cntB, h1]
    have hd : decide (1 ≤ c) = false := by simpa using h1
    rw [e]
    clear e
    go_enter Try.func85, Try.ntmps85
    go_wp2_with fail
    go_ret
    exact ⟨rfl, (Below.refl _ w).onA _⟩

theorem rMay_any (c u : Int) (w : World) :
    Calls Try.prog 52 #[.agg #[.int .i64 c, .int .i64 u]] w fun e w' => e = .returned (.bool (verB c u)) ∧ Below w.heap.size w w' := by
  by_cases h1 : 1 ≤ c
  · by_cases h2 : c ≤ 65535
    · have e : verB c u = plB u := by simp [verB, cntB, h1, h2]
      rw [e]
      clear e
      go_enter Try.func52, Try.ntmps52
      go_wp2_with (first | (go_at_call 33; refine (rPlaceMay_any _ _).mono ?_; rintro e w' ⟨rfl, hw'⟩; subst w'))
      go_ret
      exact ⟨rfl, (Below.refl _ w).onA _⟩
    · have e : verB c u = false := by simp [verB, cntB, h2]
      have hd : decide (c ≤ 65535) = false := by simpa using h2
      rw [e]
      clear e
      go_enter Try.func52, Try.ntmps52
      go_wp2_with fail
      go_ret
      exact ⟨rfl, (Below.refl _ w).onA _⟩
  · have e : verB c u = false := by simp [verB, cntB, h1]
    have hd : decide (1 ≤ c) = false := by simpa using h1
    rw [e]
    clear e
    go_enter Try.func52, Try.ntmps52
    go_wp2_with fail
    go_ret
    exact ⟨rfl, (Below.refl _ w).onA _⟩

set_option maxHeartbeats 1000000 in
theorem rNewer_any (c u d v : Int) (w : World) :
    Calls Try.prog 69 #[.agg #[.int .i64 c, .int .i64 u], .agg #[.int .i64 d, .int .i64 v]] w fun e w' => e = .returned (.tuple #[.bool (newB c u d v), .int .i64 (newE c u d v)]) ∧ Below w.heap.size w w' := by
  by_cases h1 : verB c u = true
  · by_cases h2 : verB d v = true
    · obtain ⟨e1, e2⟩ := newB_yes h1 h2
      rw [e1, e2]
      clear e1 e2
      have t1 := trivial
      by_cases h3 : c = d
      · subst h3
        have e3 : gtB c u c v = decide (v < u) := by simp [gtB]
        rw [e3]
        clear e3
        have h4 : decide (c < c) = false := by simp
        go_enter Try.func69, Try.ntmps69
        go_wp2_with (first
          | (go_at_call 52; clear t1; refine (rMay_any _ _ _).mono ?_; rintro e w1 ⟨rfl, hb1⟩; obtain ⟨hc1, hf1⟩ := bcell hb1)
          | (go_at_call 52; refine (rMay_any _ _ _).mono ?_; rintro e w2 ⟨rfl, hb2⟩; replace hb2 := hb1.on hb2; clear hb1 hc1 hf1; obtain ⟨hc2, hf2⟩ := bcell hb2))
        go_ret2
        exact ⟨rfl, (((Below.refl _ w).onA _).onA _).on hb2⟩
      · have h5 : (c == d) = false := by simpa using h3
        have e3 : gtB c u d v = decide (d < c) := by simp [gtB, h3]
        rw [e3]
        clear e3
        by_cases h4 : d < c
        · rw [decide_eq_true h4]
          go_enter Try.func69, Try.ntmps69
          go_wp2_with (first
            | (go_at_call 52; clear t1; refine (rMay_any _ _ _).mono ?_; rintro e w1 ⟨rfl, hb1⟩; obtain ⟨hc1, hf1⟩ := bcell hb1)
            | (go_at_call 52; refine (rMay_any _ _ _).mono ?_; rintro e w2 ⟨rfl, hb2⟩; replace hb2 := hb1.on hb2; clear hb1 hc1 hf1; obtain ⟨hc2, hf2⟩ := bcell hb2))
          go_ret2
          exact ⟨rfl, (((Below.refl _ w).onA _).onA _).on hb2⟩
        · have h6 : decide (d < c) = false := by simpa using h4
          rw [h6]
          go_enter Try.func69, Try.ntmps69
          go_wp2_with (first
            | (go_at_call 52; clear t1; refine (rMay_any _ _ _).mono ?_; rintro e w1 ⟨rfl, hb1⟩; obtain ⟨hc1, hf1⟩ := bcell hb1)
            | (go_at_call 52; refine (rMay_any _ _ _).mono ?_; rintro e w2 ⟨rfl, hb2⟩; replace hb2 := hb1.on hb2; clear hb1 hc1 hf1; obtain ⟨hc2, hf2⟩ := bcell hb2))
          go_ret2
          exact ⟨rfl, (((Below.refl _ w).onA _).onA _).on hb2⟩
    · have h2 : verB d v = false := by simpa using h2
      obtain ⟨e1, e2⟩ := newB_no (c := c) (u := u) (Or.inr h2)
      rw [e1, e2]
      clear e1 e2
      have t1 := trivial
      go_enter Try.func69, Try.ntmps69
      go_wp2_with (first
        | (go_at_call 52; clear t1; refine (rMay_any _ _ _).mono ?_; rintro e w1 ⟨rfl, hb1⟩; obtain ⟨hc1, hf1⟩ := bcell hb1)
        | (go_at_call 52; refine (rMay_any _ _ _).mono ?_; rintro e w2 ⟨rfl, hb2⟩))
      go_ret2
      exact ⟨rfl, ((((Below.refl _ w).onA _).onA _).on hb1).on hb2⟩
  · have h1 : verB c u = false := by simpa using h1
    obtain ⟨e1, e2⟩ := newB_no (d := d) (v := v) (Or.inl h1)
    rw [e1, e2]
    clear e1 e2
    go_enter Try.func69, Try.ntmps69
    go_wp2_with (first
      | (go_at_call 52; refine (rMay_any _ _ _).mono ?_; rintro e w1 ⟨rfl, hb1⟩))
    go_ret2
    exact ⟨rfl, (((Below.refl _ w).onA _).onA _).on hb1⟩


end Go.Proofs.Ytnadallefpahjaa

namespace Go.Proofs.Ytnadallefpahjaa
open Go.ChangeShapes Go.WideShapes Go.ChangeAt Go.RowKit

/-! ### Plain items -/
def byB (x : Int) : Bool := decide (0 ≤ x ∧ x ≤ 255)
def itB (i : It) : Bool := byB i.k && (byB i.x && (verB i.c i.u && (!i.g || decide (i.x = 0))))
/-- of one version -/
def oneB (a b : It) : Bool := if a.g = b.g then decide (b.x < a.x) else a.g
/-- is the first better than the second? -/
def betB (a b : It) : Bool := if a.c = b.c ∧ a.u = b.u then oneB a b else newB a.c a.u b.c b.u
def okB (a b : It) : Bool := itB a && (itB b && decide (a.k = b.k))
def bstI (a b : It) : It := if okB a b = true then (if betB b a = true then b else a) else ⟨0, 0, 0, 0, false⟩
def bstE (a b : It) : Int := if okB a b = true then 0 else 400

/-! ### The functions -/
theorem iIsByte_any (a : Int) (w : World) :
    Calls Try.prog 84 #[.int .i64 a] w fun e w' => e = .returned (.bool (byB a)) ∧ w' = w := by
  by_cases h1 : 0 ≤ a
  · have e : byB a = decide (a ≤ 255) := by simp [byB, h1]
    rw [e]
    clear e
    go_enter Try.func84, Try.ntmps84
    go_wp2
    go_ret
    exact ⟨rfl, rfl⟩
  · have e : byB a = false := by simp [byB, h1]
    have hd : decide (0 ≤ a) = false := by simpa using h1
    rw [e]
    clear e
    go_enter Try.func84, Try.ntmps84
    go_wp2
    go_ret
    exact ⟨rfl, rfl⟩

set_option maxHeartbeats 1000000 in
theorem iMay_any (k c u x : Int) (g : Bool) (w : World) :
    Calls Try.prog 77 #[.agg #[.int .i64 k, .int .i64 c, .int .i64 u, .int .i64 x, .bool g]] w fun e w' => e = .returned (.bool (itB ⟨k, c, u, x, g⟩)) ∧ Below w.heap.size w w' := by
  by_cases hg : g = true ∧ ¬ x = 0
  · obtain ⟨rfl, hx⟩ := hg
    have e : itB ⟨k, c, u, x, true⟩ = false := by simp [itB, hx]
    rw [e]
    clear e
    go_enter Try.func77, Try.ntmps77
    go_wp2_with fail
    go_ret
    exact ⟨rfl, (Below.refl _ w).onA _⟩
  · have e : itB ⟨k, c, u, x, g⟩ = (byB k && (byB x && verB c u)) := by
      cases g <;> simp_all [itB]
    rw [e]
    clear e
    have hg' : g = false ∨ (g = true ∧ x = 0) := by cases g <;> simp_all
    clear hg
    rcases hg' with rfl | ⟨rfl, rfl⟩
    all_goals
      rcases Bool.eq_false_or_eq_true (byB k) with hk | hk
      · rcases Bool.eq_false_or_eq_true (byB _) with hx | hx
        all_goals
          rw [hk, hx]
          have t1 := trivial
          go_enter Try.func77, Try.ntmps77
          go_wp2_with (first
            | (go_at_call 84; clear t1; refine (iIsByte_any _ _).mono ?_; rintro e w' ⟨rfl, hw'⟩; subst w')
            | (go_at_call 84; refine (iIsByte_any _ _).mono ?_; rintro e w' ⟨rfl, hw'⟩; subst w')
            | (go_at_call 85; refine (may_any _ _ _).mono ?_; rintro e w2 ⟨rfl, hb2⟩))
          go_ret
          first
            | exact ⟨by simp, ((Below.refl _ w).onA _).on hb2⟩
            | exact ⟨rfl, (Below.refl _ w).onA _⟩
      · rw [hk]
        go_enter Try.func77, Try.ntmps77
        go_wp2_with (first
            | (go_at_call 84; refine (iIsByte_any _ _).mono ?_; rintro e w' ⟨rfl, hw'⟩; subst w'))
        go_ret
        exact ⟨rfl, (Below.refl _ w).onA _⟩

theorem bst_no {a b : It} (h : okB a b = false) : bstI a b = ⟨0, 0, 0, 0, false⟩ ∧ bstE a b = 400 := by simp [bstI, bstE, h]
theorem bst_yes {a b : It} (h : okB a b = true) : bstI a b = (if betB b a = true then b else a) ∧ bstE a b = 0 := by simp [bstI, bstE, h]

theorem _root_.Go.RowKit.Below.set5 {N b : Nat} {w w' : World} (h : Below N w w') (hb : N ≤ b) (v0 v1 v2 v3 v4 : Value) : Below N w (((((w'.setCell ⟨b, 0, none⟩ v0).setCell ⟨b, 1, none⟩ v1).setCell ⟨b, 2, none⟩ v2).setCell ⟨b, 3, none⟩ v3).setCell ⟨b, 4, none⟩ v4) :=
  ((((h.setCell hb _).setCell hb _).setCell hb _).setCell hb _).setCell hb _
end Go.Proofs.Ytnadallefpahjaa

namespace Go.Proofs.Ytnadallefpahjaa
open Go.ChangeShapes Go.WideShapes Go.ChangeAt Go.RowKit

theorem itB_ver {k c u x : Int} {g : Bool} (h : itB ⟨k, c, u, x, g⟩ = true) : verB c u = true := by
  simp only [itB, Bool.and_eq_true] at h
  exact h.2.2.1
theorem itB_zero {k c u x : Int} (h : itB ⟨k, c, u, x, true⟩ = true) : x = 0 := by
  simp [itB] at h
  exact h.2.2.2
theorem newB_or {c u d v : Int} (h1 : verB c u = true) (h2 : verB d v = true) (h : newB c u d v = false) (hn : ¬ c = d ∨ ¬ u = v) : newB d v c u = true := by
  simp [newB, h1, h2, gtB] at h ⊢
  omega

theorem rByte_any (a : Int) (w : World) :
    Calls Try.prog 51 #[.int .i64 a] w fun e w' => e = .returned (.bool (byB a)) ∧ w' = w := by
  by_cases h1 : 0 ≤ a
  · have e : byB a = decide (a ≤ 255) := by simp [byB, h1]
    rw [e]
    clear e
    go_enter Try.func51, Try.ntmps51
    go_wp2
    go_ret
    exact ⟨rfl, rfl⟩
  · have e : byB a = false := by simp [byB, h1]
    have hd : decide (0 ≤ a) = false := by simpa using h1
    rw [e]
    clear e
    go_enter Try.func51, Try.ntmps51
    go_wp2
    go_ret
    exact ⟨rfl, rfl⟩

set_option maxHeartbeats 1000000 in
theorem rIMay_any (k c u x : Int) (g : Bool) (w : World) :
    Calls Try.prog 35 #[.agg #[.int .i64 k, .int .i64 c, .int .i64 u, .int .i64 x, .bool g]] w fun e w' => e = .returned (.bool (itB ⟨k, c, u, x, g⟩)) ∧ Below w.heap.size w w' := by
  have t1 := trivial
  simp only [itB]
  rcases Bool.eq_false_or_eq_true (byB k) with hk | hk
  · rcases Bool.eq_false_or_eq_true (byB x) with hx | hx
    · rcases Bool.eq_false_or_eq_true (verB c u) with hv | hv
      · cases g
        all_goals
          rw [hk, hx, hv]
          go_enter Try.func35, Try.ntmps35
          go_wp2_with (first
            | (go_at_call 51; clear t1; refine (rByte_any _ _).mono ?_; rintro e w' ⟨rfl, hw'⟩; subst w')
            | (go_at_call 51; refine (rByte_any _ _).mono ?_; rintro e w' ⟨rfl, hw'⟩; subst w')
            | (go_at_call 52; refine (rMay_any _ _ _).mono ?_; rintro e w2 ⟨rfl, hb2⟩; obtain ⟨hc2, hf2⟩ := bcell hb2))
          go_ret
          exact ⟨by first | rfl | simp, ((Below.refl _ w).onA _).on hb2⟩
      · rw [hk, hx, hv]
        go_enter Try.func35, Try.ntmps35
        go_wp2_with (first
          | (go_at_call 51; clear t1; refine (rByte_any _ _).mono ?_; rintro e w' ⟨rfl, hw'⟩; subst w')
          | (go_at_call 51; refine (rByte_any _ _).mono ?_; rintro e w' ⟨rfl, hw'⟩; subst w')
          | (go_at_call 52; refine (rMay_any _ _ _).mono ?_; rintro e w2 ⟨rfl, hb2⟩))
        go_ret
        exact ⟨rfl, ((Below.refl _ w).onA _).on hb2⟩
    · rw [hk, hx]
      go_enter Try.func35, Try.ntmps35
      go_wp2_with (first
        | (go_at_call 51; clear t1; refine (rByte_any _ _).mono ?_; rintro e w' ⟨rfl, hw'⟩; subst w')
        | (go_at_call 51; refine (rByte_any _ _).mono ?_; rintro e w' ⟨rfl, hw'⟩; subst w'))
      go_ret
      exact ⟨rfl, (Below.refl _ w).onA _⟩
  · rw [hk]
    go_enter Try.func35, Try.ntmps35
    go_wp2_with (first
      | (go_at_call 51; refine (rByte_any _ _).mono ?_; rintro e w' ⟨rfl, hw'⟩; subst w'))
    go_ret
    exact ⟨rfl, (Below.refl _ w).onA _⟩

set_option maxHeartbeats 1000000 in
theorem rBest_n (k c u x d v y : Int) (g h : Bool) (w : World) (ha : itB ⟨k, c, u, x, g⟩ = true) (hb : itB ⟨k, d, v, y, h⟩ = true) (hn : newB c u d v = true) :
    Calls Try.prog 57 #[.agg #[.int .i64 k, .int .i64 c, .int .i64 u, .int .i64 x, .bool g], .agg #[.int .i64 k, .int .i64 d, .int .i64 v, .int .i64 y, .bool h]] w fun e w' => e = .returned (.tuple #[.agg #[.int .i64 k, .int .i64 c, .int .i64 u, .int .i64 x, .bool g], .int .i64 0]) ∧ Below w.heap.size w w' := by
  have t1 := trivial
  go_enter Try.func57, Try.ntmps57
  go_wp2_with (first
    | (go_at_call 35; clear t1; refine (rIMay_any _ _ _ _ _ _).mono ?_; rintro e w1 ⟨rfl, hb1⟩; obtain ⟨hc1, hf1⟩ := bcell hb1)
    | (go_at_call 35; refine (rIMay_any _ _ _ _ _ _).mono ?_; rintro e w2 ⟨rfl, hb2⟩; replace hb2 := hb1.on hb2; clear hb1 hc1 hf1; obtain ⟨hc2, hf2⟩ := bcell hb2)
    | (go_at_call 69; refine (rNewer_any _ _ _ _ _).mono ?_; rintro e w3 ⟨rfl, hb3⟩; replace hb3 := hb2.on hb3; clear hb2 hc2 hf2; obtain ⟨hc3, hf3⟩ := bcell hb3))
  exact bodyPost_ret (v := .tuple #[.agg #[.int .i64 k, .int .i64 c, .int .i64 u, .int .i64 x, .bool g], .int .i64 0]) (by simp [results, Try.results57, go_sem, hc3]) rfl ⟨rfl, (((((Below.refl _ w).onA _).onA _).onA _).on hb3).set5 (Nat.le_succ_of_le (Nat.le_succ _)) _ _ _ _ _⟩

set_option maxHeartbeats 1000000 in
theorem rBest_c (k c u x d v y : Int) (g h : Bool) (w : World) (ha : itB ⟨k, c, u, x, g⟩ = true) (hb : itB ⟨k, d, v, y, h⟩ = true) (hn : newB c u d v = false) (hc : ¬ c = d) :
    Calls Try.prog 57 #[.agg #[.int .i64 k, .int .i64 c, .int .i64 u, .int .i64 x, .bool g], .agg #[.int .i64 k, .int .i64 d, .int .i64 v, .int .i64 y, .bool h]] w fun e w' => e = .returned (.tuple #[.agg #[.int .i64 k, .int .i64 d, .int .i64 v, .int .i64 y, .bool h], .int .i64 0]) ∧ Below w.heap.size w w' := by
  have t1 := trivial
  go_enter Try.func57, Try.ntmps57
  go_wp2_with (first
    | (go_at_call 35; clear t1; refine (rIMay_any _ _ _ _ _ _).mono ?_; rintro e w1 ⟨rfl, hb1⟩; obtain ⟨hc1, hf1⟩ := bcell hb1)
    | (go_at_call 35; refine (rIMay_any _ _ _ _ _ _).mono ?_; rintro e w2 ⟨rfl, hb2⟩; replace hb2 := hb1.on hb2; clear hb1 hc1 hf1; obtain ⟨hc2, hf2⟩ := bcell hb2)
    | (go_at_call 69; refine (rNewer_any _ _ _ _ _).mono ?_; rintro e w3 ⟨rfl, hb3⟩; replace hb3 := hb2.on hb3; clear hb2 hc2 hf2; obtain ⟨hc3, hf3⟩ := bcell hb3))
  exact bodyPost_ret (v := .tuple #[.agg #[.int .i64 k, .int .i64 d, .int .i64 v, .int .i64 y, .bool h], .int .i64 0]) (by simp [results, Try.results57, go_sem, hc3]) rfl ⟨rfl, (((((Below.refl _ w).onA _).onA _).onA _).on hb3).set5 (Nat.le_succ_of_le (Nat.le_succ _)) _ _ _ _ _⟩

set_option maxHeartbeats 1000000 in
theorem rBest_u (k c u x v y : Int) (g h : Bool) (w : World) (ha : itB ⟨k, c, u, x, g⟩ = true) (hb : itB ⟨k, c, v, y, h⟩ = true) (hn : newB c u c v = false) (hc : ¬ u = v) :
    Calls Try.prog 57 #[.agg #[.int .i64 k, .int .i64 c, .int .i64 u, .int .i64 x, .bool g], .agg #[.int .i64 k, .int .i64 c, .int .i64 v, .int .i64 y, .bool h]] w fun e w' => e = .returned (.tuple #[.agg #[.int .i64 k, .int .i64 c, .int .i64 v, .int .i64 y, .bool h], .int .i64 0]) ∧ Below w.heap.size w w' := by
  have t1 := trivial
  go_enter Try.func57, Try.ntmps57
  go_wp2_with (first
    | (go_at_call 35; clear t1; refine (rIMay_any _ _ _ _ _ _).mono ?_; rintro e w1 ⟨rfl, hb1⟩; obtain ⟨hc1, hf1⟩ := bcell hb1)
    | (go_at_call 35; refine (rIMay_any _ _ _ _ _ _).mono ?_; rintro e w2 ⟨rfl, hb2⟩; replace hb2 := hb1.on hb2; clear hb1 hc1 hf1; obtain ⟨hc2, hf2⟩ := bcell hb2)
    | (go_at_call 69; refine (rNewer_any _ _ _ _ _).mono ?_; rintro e w3 ⟨rfl, hb3⟩; replace hb3 := hb2.on hb3; clear hb2 hc2 hf2; obtain ⟨hc3, hf3⟩ := bcell hb3))
  exact bodyPost_ret (v := .tuple #[.agg #[.int .i64 k, .int .i64 c, .int .i64 v, .int .i64 y, .bool h], .int .i64 0]) (by simp [results, Try.results57, go_sem, hc3]) rfl ⟨rfl, (((((Below.refl _ w).onA _).onA _).onA _).on hb3).set5 (Nat.le_succ_of_le (Nat.le_succ _)) _ _ _ _ _⟩

set_option maxHeartbeats 1000000 in
theorem rBest_h (k c u x y : Int) (g : Bool) (w : World) (ha : itB ⟨k, c, u, x, g⟩ = true) (hb : itB ⟨k, c, u, y, true⟩ = true) (hn : newB c u c u = false) :
    Calls Try.prog 57 #[.agg #[.int .i64 k, .int .i64 c, .int .i64 u, .int .i64 x, .bool g], .agg #[.int .i64 k, .int .i64 c, .int .i64 u, .int .i64 y, .bool true]] w fun e w' => e = .returned (.tuple #[.agg #[.int .i64 k, .int .i64 c, .int .i64 u, .int .i64 y, .bool true], .int .i64 0]) ∧ Below w.heap.size w w' := by
  have t1 := trivial
  go_enter Try.func57, Try.ntmps57
  go_wp2_with (first
    | (go_at_call 35; clear t1; refine (rIMay_any _ _ _ _ _ _).mono ?_; rintro e w1 ⟨rfl, hb1⟩; obtain ⟨hc1, hf1⟩ := bcell hb1)
    | (go_at_call 35; refine (rIMay_any _ _ _ _ _ _).mono ?_; rintro e w2 ⟨rfl, hb2⟩; replace hb2 := hb1.on hb2; clear hb1 hc1 hf1; obtain ⟨hc2, hf2⟩ := bcell hb2)
    | (go_at_call 69; refine (rNewer_any _ _ _ _ _).mono ?_; rintro e w3 ⟨rfl, hb3⟩; replace hb3 := hb2.on hb3; clear hb2 hc2 hf2; obtain ⟨hc3, hf3⟩ := bcell hb3))
  exact bodyPost_ret (v := .tuple #[.agg #[.int .i64 k, .int .i64 c, .int .i64 u, .int .i64 y, .bool true], .int .i64 0]) (by simp [results, Try.results57, go_sem, hc3]) rfl ⟨rfl, (((((Below.refl _ w).onA _).onA _).onA _).on hb3).set5 (Nat.le_succ_of_le (Nat.le_succ _)) _ _ _ _ _⟩

set_option maxHeartbeats 1000000 in
theorem rBest_g (k c u x y : Int) (w : World) (ha : itB ⟨k, c, u, x, true⟩ = true) (hb : itB ⟨k, c, u, y, false⟩ = true) (hn : newB c u c u = false) :
    Calls Try.prog 57 #[.agg #[.int .i64 k, .int .i64 c, .int .i64 u, .int .i64 x, .bool true], .agg #[.int .i64 k, .int .i64 c, .int .i64 u, .int .i64 y, .bool false]] w fun e w' => e = .returned (.tuple #[.agg #[.int .i64 k, .int .i64 c, .int .i64 u, .int .i64 x, .bool true], .int .i64 0]) ∧ Below w.heap.size w w' := by
  have t1 := trivial
  go_enter Try.func57, Try.ntmps57
  go_wp2_with (first
    | (go_at_call 35; clear t1; refine (rIMay_any _ _ _ _ _ _).mono ?_; rintro e w1 ⟨rfl, hb1⟩; obtain ⟨hc1, hf1⟩ := bcell hb1)
    | (go_at_call 35; refine (rIMay_any _ _ _ _ _ _).mono ?_; rintro e w2 ⟨rfl, hb2⟩; replace hb2 := hb1.on hb2; clear hb1 hc1 hf1; obtain ⟨hc2, hf2⟩ := bcell hb2)
    | (go_at_call 69; refine (rNewer_any _ _ _ _ _).mono ?_; rintro e w3 ⟨rfl, hb3⟩; replace hb3 := hb2.on hb3; clear hb2 hc2 hf2; obtain ⟨hc3, hf3⟩ := bcell hb3))
  exact bodyPost_ret (v := .tuple #[.agg #[.int .i64 k, .int .i64 c, .int .i64 u, .int .i64 x, .bool true], .int .i64 0]) (by simp [results, Try.results57, go_sem, hc3]) rfl ⟨rfl, (((((Below.refl _ w).onA _).onA _).onA _).on hb3).set5 (Nat.le_succ_of_le (Nat.le_succ _)) _ _ _ _ _⟩

set_option maxHeartbeats 1000000 in
theorem rBest_x (k c u x y : Int) (w : World) (ha : itB ⟨k, c, u, x, false⟩ = true) (hb : itB ⟨k, c, u, y, false⟩ = true) (hn : newB c u c u = false) (hx : x ≤ y) :
    Calls Try.prog 57 #[.agg #[.int .i64 k, .int .i64 c, .int .i64 u, .int .i64 x, .bool false], .agg #[.int .i64 k, .int .i64 c, .int .i64 u, .int .i64 y, .bool false]] w fun e w' => e = .returned (.tuple #[.agg #[.int .i64 k, .int .i64 c, .int .i64 u, .int .i64 y, .bool false], .int .i64 0]) ∧ Below w.heap.size w w' := by
  have t1 := trivial
  go_enter Try.func57, Try.ntmps57
  go_wp2_with (first
    | (go_at_call 35; clear t1; refine (rIMay_any _ _ _ _ _ _).mono ?_; rintro e w1 ⟨rfl, hb1⟩; obtain ⟨hc1, hf1⟩ := bcell hb1)
    | (go_at_call 35; refine (rIMay_any _ _ _ _ _ _).mono ?_; rintro e w2 ⟨rfl, hb2⟩; replace hb2 := hb1.on hb2; clear hb1 hc1 hf1; obtain ⟨hc2, hf2⟩ := bcell hb2)
    | (go_at_call 69; refine (rNewer_any _ _ _ _ _).mono ?_; rintro e w3 ⟨rfl, hb3⟩; replace hb3 := hb2.on hb3; clear hb2 hc2 hf2; obtain ⟨hc3, hf3⟩ := bcell hb3))
  exact bodyPost_ret (v := .tuple #[.agg #[.int .i64 k, .int .i64 c, .int .i64 u, .int .i64 y, .bool false], .int .i64 0]) (by simp [results, Try.results57, go_sem, hc3]) rfl ⟨rfl, (((((Below.refl _ w).onA _).onA _).onA _).on hb3).set5 (Nat.le_succ_of_le (Nat.le_succ _)) _ _ _ _ _⟩

set_option maxHeartbeats 1000000 in
theorem rBest_y (k c u x y : Int) (w : World) (ha : itB ⟨k, c, u, x, false⟩ = true) (hb : itB ⟨k, c, u, y, false⟩ = true) (hn : newB c u c u = false) (_ : ¬ x ≤ y) (hx2 : decide (x ≤ y) = false) :
    Calls Try.prog 57 #[.agg #[.int .i64 k, .int .i64 c, .int .i64 u, .int .i64 x, .bool false], .agg #[.int .i64 k, .int .i64 c, .int .i64 u, .int .i64 y, .bool false]] w fun e w' => e = .returned (.tuple #[.agg #[.int .i64 k, .int .i64 c, .int .i64 u, .int .i64 x, .bool false], .int .i64 0]) ∧ Below w.heap.size w w' := by
  have t1 := trivial
  go_enter Try.func57, Try.ntmps57
  go_wp2_with (first
    | (go_at_call 35; clear t1; refine (rIMay_any _ _ _ _ _ _).mono ?_; rintro e w1 ⟨rfl, hb1⟩; obtain ⟨hc1, hf1⟩ := bcell hb1)
    | (go_at_call 35; refine (rIMay_any _ _ _ _ _ _).mono ?_; rintro e w2 ⟨rfl, hb2⟩; replace hb2 := hb1.on hb2; clear hb1 hc1 hf1; obtain ⟨hc2, hf2⟩ := bcell hb2)
    | (go_at_call 69; refine (rNewer_any _ _ _ _ _).mono ?_; rintro e w3 ⟨rfl, hb3⟩; replace hb3 := hb2.on hb3; clear hb2 hc2 hf2; obtain ⟨hc3, hf3⟩ := bcell hb3))
  exact bodyPost_ret (v := .tuple #[.agg #[.int .i64 k, .int .i64 c, .int .i64 u, .int .i64 x, .bool false], .int .i64 0]) (by simp [results, Try.results57, go_sem, hc3]) rfl ⟨rfl, (((((Below.refl _ w).onA _).onA _).onA _).on hb3).set5 (Nat.le_succ_of_le (Nat.le_succ _)) _ _ _ _ _⟩

set_option maxHeartbeats 1000000 in
theorem rBest_no (k c u x : Int) (g : Bool) (l d v y : Int) (h : Bool) (w : World) (hn : okB ⟨k, c, u, x, g⟩ ⟨l, d, v, y, h⟩ = false) :
    Calls Try.prog 57 #[.agg #[.int .i64 k, .int .i64 c, .int .i64 u, .int .i64 x, .bool g], .agg #[.int .i64 l, .int .i64 d, .int .i64 v, .int .i64 y, .bool h]] w fun e w' => e = .returned (.tuple #[.agg #[.int .i64 0, .int .i64 0, .int .i64 0, .int .i64 0, .bool false], .int .i64 400]) ∧ Below w.heap.size w w' := by
  have t1 := trivial
  rcases Bool.eq_false_or_eq_true (itB ⟨k, c, u, x, g⟩) with ha | ha
  · rcases Bool.eq_false_or_eq_true (itB ⟨l, d, v, y, h⟩) with hb | hb
    · have hk : ¬ k = l := by simpa [okB, ha, hb] using hn
      clear hn
      go_enter Try.func57, Try.ntmps57
      go_wp2_with (first
        | (go_at_call 35; clear t1; refine (rIMay_any _ _ _ _ _ _).mono ?_; rintro e w1 ⟨rfl, hb1⟩; obtain ⟨hc1, hf1⟩ := bcell hb1)
        | (go_at_call 35; refine (rIMay_any _ _ _ _ _ _).mono ?_; rintro e w2 ⟨rfl, hb2⟩; replace hb2 := hb1.on hb2; clear hb1 hc1 hf1; obtain ⟨hc2, hf2⟩ := bcell hb2))
      exact bodyPost_ret (v := .tuple #[.agg #[.int .i64 0, .int .i64 0, .int .i64 0, .int .i64 0, .bool false], .int .i64 400]) (by simp [results, Try.results57, go_sem, hc2]) rfl ⟨rfl, (((((Below.refl _ w).onA _).onA _).onA _).on hb2).set5 (Nat.le_succ_of_le (Nat.le_succ _)) _ _ _ _ _⟩
    · clear hn
      go_enter Try.func57, Try.ntmps57
      go_wp2_with (first
        | (go_at_call 35; clear t1; refine (rIMay_any _ _ _ _ _ _).mono ?_; rintro e w1 ⟨rfl, hb1⟩; obtain ⟨hc1, hf1⟩ := bcell hb1)
        | (go_at_call 35; refine (rIMay_any _ _ _ _ _ _).mono ?_; rintro e w2 ⟨rfl, hb2⟩; replace hb2 := hb1.on hb2; clear hb1 hc1 hf1; obtain ⟨hc2, hf2⟩ := bcell hb2))
      exact bodyPost_ret (v := .tuple #[.agg #[.int .i64 0, .int .i64 0, .int .i64 0, .int .i64 0, .bool false], .int .i64 400]) (by simp [results, Try.results57, go_sem, hc2]) rfl ⟨rfl, (((((Below.refl _ w).onA _).onA _).onA _).on hb2).set5 (Nat.le_succ_of_le (Nat.le_succ _)) _ _ _ _ _⟩
  · clear hn
    go_enter Try.func57, Try.ntmps57
    go_wp2_with (first
      | (go_at_call 35; clear t1; refine (rIMay_any _ _ _ _ _ _).mono ?_; rintro e w1 ⟨rfl, hb1⟩; obtain ⟨hc1, hf1⟩ := bcell hb1))
    exact bodyPost_ret (v := .tuple #[.agg #[.int .i64 0, .int .i64 0, .int .i64 0, .int .i64 0, .bool false], .int .i64 400]) (by simp [results, Try.results57, go_sem, hc1]) rfl ⟨rfl, (((((Below.refl _ w).onA _).onA _).onA _).on hb1).set5 (Nat.le_succ_of_le (Nat.le_succ _)) _ _ _ _ _⟩

theorem rBest_any (k c u x : Int) (g : Bool) (l d v y : Int) (h : Bool) (w : World) :
    Calls Try.prog 57 #[.agg #[.int .i64 k, .int .i64 c, .int .i64 u, .int .i64 x, .bool g], .agg #[.int .i64 l, .int .i64 d, .int .i64 v, .int .i64 y, .bool h]] w fun e w' =>
      e = .returned (.tuple #[.agg #[.int .i64 (bstI ⟨k, c, u, x, g⟩ ⟨l, d, v, y, h⟩).k, .int .i64 (bstI ⟨k, c, u, x, g⟩ ⟨l, d, v, y, h⟩).c, .int .i64 (bstI ⟨k, c, u, x, g⟩ ⟨l, d, v, y, h⟩).u, .int .i64 (bstI ⟨k, c, u, x, g⟩ ⟨l, d, v, y, h⟩).x, .bool (bstI ⟨k, c, u, x, g⟩ ⟨l, d, v, y, h⟩).g], .int .i64 (bstE ⟨k, c, u, x, g⟩ ⟨l, d, v, y, h⟩)]) ∧ Below w.heap.size w w' := by
  rcases Bool.eq_false_or_eq_true (okB ⟨k, c, u, x, g⟩ ⟨l, d, v, y, h⟩) with ho | ho
  · obtain ⟨e1, e2⟩ := bst_yes ho
    simp only [okB, Bool.and_eq_true, decide_eq_true_eq] at ho
    obtain ⟨ha, hb, rfl⟩ := ho
    rw [e1, e2]
    clear e1 e2
    have va := itB_ver ha
    have vb := itB_ver hb
    rcases Bool.eq_false_or_eq_true (newB c u d v) with hn | hn
    · have hw : betB ⟨k, d, v, y, h⟩ ⟨k, c, u, x, g⟩ = false := by
        simp [newB, va, vb, gtB] at hn
        have hv : ¬ (d = c ∧ v = u) := by omega
        simp only [betB]
        rw [if_neg hv]
        simp [newB, va, vb, gtB]
        omega
      rw [if_neg (by simp [hw])]
      exact rBest_n _ _ _ _ _ _ _ _ _ _ ha hb hn
    · by_cases hc : c = d
      · subst hc
        by_cases hu : u = v
        · subst hu
          cases h
          · cases g
            · by_cases hx : x ≤ y
              · have hw : (if betB ⟨k, c, u, y, false⟩ ⟨k, c, u, x, false⟩ = true then (⟨k, c, u, y, false⟩ : It) else ⟨k, c, u, x, false⟩) = ⟨k, c, u, y, false⟩ := by
                  by_cases hxy : x < y
                  · simp [betB, oneB, hxy]
                  · have : x = y := by omega
                    subst this
                    simp
                rw [hw]
                exact rBest_x _ _ _ _ _ _ ha hb hn hx
              · have hw : betB ⟨k, c, u, y, false⟩ ⟨k, c, u, x, false⟩ = false := by simp [betB, oneB]; omega
                rw [if_neg (by simp [hw])]
                exact rBest_y _ _ _ _ _ _ ha hb hn hx (by simpa using hx)
            · have hw : betB ⟨k, c, u, y, false⟩ ⟨k, c, u, x, true⟩ = false := by simp [betB, oneB]
              rw [if_neg (by simp [hw])]
              exact rBest_g _ _ _ _ _ _ ha hb hn
          · have hw : (if betB ⟨k, c, u, y, true⟩ ⟨k, c, u, x, g⟩ = true then (⟨k, c, u, y, true⟩ : It) else ⟨k, c, u, x, g⟩) = ⟨k, c, u, y, true⟩ := by
              cases g
              · simp [betB, oneB]
              · have h1 := itB_zero ha
                have h2 := itB_zero hb
                subst h1 h2
                simp
            rw [hw]
            exact rBest_h _ _ _ _ _ _ _ ha hb hn
        · have hw : betB ⟨k, c, v, y, h⟩ ⟨k, c, u, x, g⟩ = true := by
            have := newB_or va vb hn (Or.inr hu)
            simp [betB, this]
            omega
          rw [if_pos hw]
          exact rBest_u _ _ _ _ _ _ _ _ _ ha hb hn hu
      · have hw : betB ⟨k, d, v, y, h⟩ ⟨k, c, u, x, g⟩ = true := by
          have := newB_or va vb hn (Or.inl hc)
          simp [betB, this]
          omega
        rw [if_pos hw]
        exact rBest_c _ _ _ _ _ _ _ _ _ _ ha hb hn hc
  · obtain ⟨e1, e2⟩ := bst_no ho
    rw [e1, e2]
    exact rBest_no _ _ _ _ _ _ _ _ _ _ _ ho

end Go.Proofs.Ytnadallefpahjaa

namespace Go.Proofs.Ytnadallefpahjaa

def rk (a : It) : Int := ((a.c * 256 + a.u) * 2 + (if a.g = true then 1 else 0)) * 256 + a.x
def mx (a b : It) : It := if betB b a = true then b else a

theorem itB_bd {a : It} (h : itB a = true) : 1 ≤ a.c ∧ a.c ≤ 65535 ∧ 0 ≤ a.u ∧ a.u < 256 ∧ 0 ≤ a.x ∧ a.x ≤ 255 ∧ (a.g = true → a.x = 0) ∧ verB a.c a.u = true := by
  have hv : verB a.c a.u = true := by
    simp only [itB, Bool.and_eq_true] at h
    exact h.2.2.1
  have hv2 := hv
  simp [itB, byB] at h
  simp [verB, cntB, plB] at hv
  refine ⟨by omega, by omega, by omega, by omega, by omega, by omega, fun hg => ?_, hv2⟩
  rcases h.2.2.2 with h1 | h1
  · rw [hg] at h1; cases h1
  · exact h1

theorem rk_bet {a b : It} (ha : itB a = true) (hb : itB b = true) : betB a b = decide (rk b < rk a) := by
  obtain ⟨c0, c1, u0, u1, x0, x1, z0, va⟩ := itB_bd ha
  obtain ⟨d0, d1, v0, v1, y0, y1, z1, vb⟩ := itB_bd hb
  clear ha hb
  obtain ⟨k, c, u, x, g⟩ := a
  obtain ⟨l, d, v, y, h⟩ := b
  dsimp only at *
  rw [Bool.eq_iff_iff, decide_eq_true_iff]
  simp only [betB, rk]
  by_cases e : c = d ∧ u = v
  · rw [if_pos e]
    obtain ⟨rfl, rfl⟩ := e
    cases g <;> cases h <;> simp [oneB] at z0 z1 ⊢ <;> omega
  · rw [if_neg e]
    simp only [newB, va, vb, gtB, Bool.and_self, Bool.true_and, Bool.or_eq_true, Bool.and_eq_true, decide_eq_true_eq]
    cases g <;> cases h <;> simp at z0 z1 ⊢ <;> omega

theorem rk_inj {a b : It} (ha : itB a = true) (hb : itB b = true) (hk : a.k = b.k) (h : rk a = rk b) : a = b := by
  obtain ⟨c0, c1, u0, u1, x0, x1, z0, va⟩ := itB_bd ha
  obtain ⟨d0, d1, v0, v1, y0, y1, z1, vb⟩ := itB_bd hb
  clear ha hb va vb
  obtain ⟨k, c, u, x, g⟩ := a
  obtain ⟨l, d, v, y, h'⟩ := b
  dsimp only [rk] at *
  cases g <;> cases h' <;> simp at z0 z1 h ⊢ <;> omega

theorem mx_eq {a b : It} (ha : itB a = true) (hb : itB b = true) : mx a b = if rk a < rk b then b else a := by
  simp only [mx, rk_bet hb ha, decide_eq_true_eq]
theorem mx_or (a b : It) : mx a b = a ∨ mx a b = b := by
  unfold mx
  split
  · exact Or.inr rfl
  · exact Or.inl rfl
theorem mx_itB {a b : It} (ha : itB a = true) (hb : itB b = true) : itB (mx a b) = true := by
  rcases mx_or a b with h | h <;> rw [h] <;> assumption
theorem mx_k {a b : It} (hk : a.k = b.k) : (mx a b).k = b.k := by
  rcases mx_or a b with h | h <;> rw [h]
  exact hk
theorem mx_comm {a b : It} (ha : itB a = true) (hb : itB b = true) (hk : a.k = b.k) : mx a b = mx b a := by
  rw [mx_eq ha hb, mx_eq hb ha]
  by_cases h1 : rk a < rk b
  · rw [if_pos h1, if_neg (by omega)]
  · rw [if_neg h1]
    by_cases h2 : rk b < rk a
    · rw [if_pos h2]
    · rw [if_neg h2]
      exact rk_inj ha hb hk (by omega)
theorem mx_assoc {a b c : It} (ha : itB a = true) (hb : itB b = true) (hc : itB c = true) : mx (mx a b) c = mx a (mx b c) := by
  rw [mx_eq (mx_itB ha hb) hc, mx_eq ha (mx_itB hb hc), mx_eq ha hb, mx_eq hb hc]
  by_cases h1 : rk a < rk b
  · rw [if_pos h1]
    by_cases h2 : rk b < rk c
    · rw [if_pos h2, if_pos (by omega)]
    · rw [if_neg h2, if_pos h1]
  · rw [if_neg h1]
    by_cases h2 : rk b < rk c
    · rw [if_pos h2]
    · rw [if_neg h2, if_neg (by omega), if_neg h1]
theorem bst_mx {a b : It} (ha : itB a = true) (hb : itB b = true) (hk : a.k = b.k) : bstI a b = mx a b ∧ bstE a b = 0 :=
  bst_yes (by simp [okB, ha, hb, hk])
end Go.Proofs.Ytnadallefpahjaa

namespace Go.Proofs.Ytnadallefpahjaa

abbrev Srt (xs : List It) : Prop := xs.Pairwise (fun a b => a.k < b.k)
abbrev Val (xs : List It) : Prop := ∀ x ∈ xs, itB x = true
def stB (xs : List It) : Bool := decide (Val xs ∧ Srt xs ∧ xs.length ≤ 16)

def look : List It → Int → Option It
  | [], _ => none
  | a :: r, k => if a.k = k then some a else look r k
def ins : List It → It → List It
  | [], x => [x]
  | a :: r, x => if x.k < a.k then x :: a :: r else if a.k = x.k then mx a x :: r else a :: ins r x
def fold (xs : List It) (l : List It) : List It := l.foldl ins xs

def putOk (xs : List It) (x : It) : Bool := stB xs && itB x
def putL (xs : List It) (x : It) : List It := if putOk xs x = true then (if (ins xs x).length ≤ 16 then ins xs x else []) else []
def putE (xs : List It) (x : It) : Int := if putOk xs x = true then (if (ins xs x).length ≤ 16 then 0 else 501) else 500
/-! ### Looking up -/
theorem look_mem : ∀ {xs : List It} {k : Int} {a : It}, look xs k = some a → a ∈ xs ∧ a.k = k
  | b :: r, k, a, h => by
    simp only [look] at h
    split at h
    · cases h; exact ⟨List.mem_cons_self, by assumption⟩
    · have := look_mem h
      exact ⟨List.mem_cons_of_mem _ this.1, this.2⟩
theorem look_none : ∀ {xs : List It} {k : Int}, (∀ a ∈ xs, a.k ≠ k) → look xs k = none
  | [], _, _ => rfl
  | b :: r, k, h => by
    simp only [look]
    rw [if_neg (h b List.mem_cons_self)]
    exact look_none fun a ha => h a (List.mem_cons_of_mem _ ha)
theorem store_ext : ∀ {xs ys : List It}, Srt xs → Srt ys → (∀ k, look xs k = look ys k) → xs = ys
  | [], [], _, _, _ => rfl
  | [], b :: s, _, _, h => by have := h b.k; simp [look] at this
  | a :: r, [], _, _, h => by have := h a.k; simp [look] at this
  | a :: r, b :: s, hx, hy, h => by
    have hx' := List.pairwise_cons.1 hx
    have hy' := List.pairwise_cons.1 hy
    have ha := h a.k
    have hb := h b.k
    simp only [look, if_true] at ha hb
    have hk : a.k = b.k := by
      by_cases h1 : b.k = a.k
      · exact h1.symm
      · rw [if_neg h1] at ha
        rw [if_neg (fun e => h1 e.symm)] at hb
        have m1 := look_mem ha.symm
        have m2 := look_mem hb
        have := hy'.1 a m1.1
        have := hx'.1 b m2.1
        omega
    rw [if_pos hk.symm] at ha
    cases ha
    congr 1
    refine store_ext hx'.2 hy'.2 fun k => ?_
    by_cases hka : a.k = k
    · rw [look_none (fun c hc => by have := hx'.1 c hc; omega), look_none (fun c hc => by have := hy'.1 c hc; omega)]
    · have := h k
      simpa only [look, if_neg hka] using this

/-! ### Putting -/
theorem mx_key {a x : It} (h : a.k = x.k) : (mx a x).k = x.k := mx_k h
theorem ins_key : ∀ {xs : List It} {x y : It}, y ∈ ins xs x → y.k = x.k ∨ ∃ a ∈ xs, a.k = y.k
  | [], x, y, h => by simp [ins] at h; exact .inl (by rw [h])
  | a :: r, x, y, h => by
    simp only [ins] at h
    split at h
    · rcases List.mem_cons.1 h with rfl | h
      · exact .inl rfl
      · exact .inr ⟨y, h, rfl⟩
    · split at h
      · rcases List.mem_cons.1 h with rfl | h
        · exact .inl (mx_key (by assumption))
        · exact .inr ⟨y, List.mem_cons_of_mem _ h, rfl⟩
      · rcases List.mem_cons.1 h with rfl | h
        · exact .inr ⟨y, List.mem_cons_self, rfl⟩
        · rcases ins_key h with h | ⟨b, hb, e⟩
          · exact .inl h
          · exact .inr ⟨b, List.mem_cons_of_mem _ hb, e⟩
theorem ins_srt : ∀ {xs : List It} {x : It}, Srt xs → Srt (ins xs x)
  | [], x, _ => by simp [ins, Srt]
  | a :: r, x, h => by
    have h' := List.pairwise_cons.1 h
    simp only [ins]
    split
    · refine List.pairwise_cons.2 ⟨fun b hb => ?_, h⟩
      rcases List.mem_cons.1 hb with rfl | hb
      · assumption
      · have := h'.1 b hb; omega
    · split
      · rename_i h1 h2
        exact List.pairwise_cons.2 ⟨fun b hb => by rw [mx_key h2, ← h2]; exact h'.1 b hb, h'.2⟩
      · rename_i h1 h2
        refine List.pairwise_cons.2 ⟨fun b hb => ?_, ins_srt h'.2⟩
        rcases ins_key hb with e | ⟨c, hc, e⟩
        · omega
        · have := h'.1 c hc; omega
theorem ins_val : ∀ {xs : List It} {x : It}, Val xs → itB x = true → Val (ins xs x)
  | [], x, _, hx => by intro y hy; simp [ins] at hy; rw [hy]; exact hx
  | a :: r, x, h, hx => by
    have ha := h a List.mem_cons_self
    have hr : Val r := fun y hy => h y (List.mem_cons_of_mem _ hy)
    simp only [ins]
    intro y hy
    split at hy
    · rcases List.mem_cons.1 hy with rfl | hy
      · exact hx
      · exact h y hy
    · split at hy
      · rcases List.mem_cons.1 hy with rfl | hy
        · exact mx_itB ha hx
        · exact hr y hy
      · rcases List.mem_cons.1 hy with rfl | hy
        · exact ha
        · exact ins_val hr hx y hy
theorem ins_len : ∀ (xs : List It) (x : It), (ins xs x).length ≤ xs.length + 1
  | [], x => by simp [ins]
  | a :: r, x => by
    simp only [ins]
    split
    · simp
    · split
      · simp
      · have := ins_len r x
        simp
        omega
/-- What a store holds of a key once an item was put. -/
def put1 (o : Option It) (x : It) : It := match o with
  | none => x
  | some a => mx a x
theorem look_ins : ∀ {xs : List It} {x : It} (k : Int), Srt xs → look (ins xs x) k = if x.k = k then some (put1 (look xs k) x) else look xs k
  | [], x, k, _ => by simp only [ins, look]; rfl
  | a :: r, x, k, h => by
    have h' := List.pairwise_cons.1 h
    simp only [ins]
    split
    · rename_i h1
      simp only [look]
      by_cases e : x.k = k
      · rw [if_pos e, if_pos e, if_neg (by omega), look_none (fun b hb => by have := h'.1 b hb; omega)]
        rfl
      · rw [if_neg e, if_neg e]
    · split
      · rename_i h1 h2
        simp only [look]
        rw [mx_key h2]
        by_cases e : x.k = k
        · rw [if_pos e, if_pos e, if_pos (h2.trans e)]
          rfl
        · rw [if_neg e, if_neg e, if_neg (fun e' => e (h2.symm.trans e'))]
      · rename_i h1 h2
        simp only [look]
        by_cases e : a.k = k
        · rw [if_pos e, if_neg (by omega), if_pos e]
        · rw [if_neg e, look_ins k h'.2, if_neg e]

theorem look_val {xs : List It} {k : Int} {a : It} (h : Val xs) (hl : look xs k = some a) : itB a = true ∧ a.k = k :=
  ⟨h a (look_mem hl).1, (look_mem hl).2⟩

/-- Two puts, in whatever row. -/
theorem ins_comm {xs : List It} {x y : It} (hs : Srt xs) (hv : Val xs) (hx : itB x = true) (hy : itB y = true) : ins (ins xs x) y = ins (ins xs y) x := by
  refine store_ext (ins_srt (ins_srt hs)) (ins_srt (ins_srt hs)) fun k => ?_
  rw [look_ins k (ins_srt hs), look_ins k hs, look_ins k (ins_srt hs), look_ins k hs]
  by_cases e1 : x.k = k
  · by_cases e2 : y.k = k
    · simp only [e1, e2, if_true]
      congr 1
      cases hl : look xs k with
      | none => exact mx_comm hx hy (e1.trans e2.symm)
      | some a =>
        obtain ⟨ha, hk⟩ := look_val hv hl
        show mx (mx a x) y = mx (mx a y) x
        rw [mx_assoc ha hx hy, mx_assoc ha hy hx, mx_comm hx hy (e1.trans e2.symm)]
    · simp only [if_pos e1, if_neg e2]
  · by_cases e2 : y.k = k
    · simp only [if_neg e1, if_pos e2]
    · simp only [if_neg e1, if_neg e2]

/-! ### Many puts -/
theorem fold_ins : ∀ {l xs : List It} {a : It}, Srt xs → Val xs → Val l → itB a = true → fold (ins xs a) l = ins (fold xs l) a
  | [], _, _, _, _, _, _ => rfl
  | b :: l, xs, a, hs, hv, hl, ha => by
    have hb := hl b List.mem_cons_self
    have hl' : Val l := fun x hx => hl x (List.mem_cons_of_mem _ hx)
    show fold (ins (ins xs a) b) l = ins (fold (ins xs b) l) a
    rw [ins_comm hs hv ha hb]
    exact fold_ins (ins_srt hs) (ins_val hv hb) hl' ha
/-- Two rows of puts, in whatever row. -/
theorem fold_comm : ∀ {l m xs : List It}, Srt xs → Val xs → Val l → Val m → fold (fold xs l) m = fold (fold xs m) l
  | [], _, _, _, _, _, _ => rfl
  | a :: l, m, xs, hs, hv, hl, hm => by
    have ha := hl a List.mem_cons_self
    have hl' : Val l := fun x hx => hl x (List.mem_cons_of_mem _ hx)
    show fold (fold (ins xs a) l) m = fold (ins (fold xs m) a) l
    rw [fold_comm (ins_srt hs) (ins_val hv ha) hl' hm, fold_ins hs hv hm ha]
/-- A store put into the empty one is it. -/
theorem fold_self : ∀ {l xs : List It}, Srt (xs ++ l) → fold xs l = xs ++ l
  | [], xs, _ => by simp [fold]
  | a :: l, xs, h => by
    have h1 : ins xs a = xs ++ [a] := by
      have h2 := (List.pairwise_append.1 h).2.2
      clear h
      induction xs with
      | nil => rfl
      | cons b r ih =>
        have hb := h2 b List.mem_cons_self a List.mem_cons_self
        show (if a.k < b.k then _ else if b.k = a.k then _ else _) = _
        rw [if_neg (by omega), if_neg (by omega), ih (fun x hx => h2 x (List.mem_cons_of_mem _ hx))]
        rfl
    show fold (ins xs a) l = _
    rw [h1, fold_self (by simpa using h)]
    simp
/-- Two stores put into each other are the same. -/
theorem fold_merge {xs ys : List It} (hx : Srt xs) (hy : Srt ys) (vx : Val xs) (vy : Val ys) : fold xs ys = fold ys xs := by
  have h1 : fold [] xs = xs := by simpa using fold_self (xs := []) (l := xs) (by simpa using hx)
  have h2 : fold [] ys = ys := by simpa using fold_self (xs := []) (l := ys) (by simpa using hy)
  have h3 := fold_comm (xs := []) (l := xs) (m := ys) List.Pairwise.nil (fun x hx => by cases hx) vx vy
  rwa [h1, h2] at h3

theorem stB_iff {xs : List It} : stB xs = true ↔ Val xs ∧ Srt xs ∧ xs.length ≤ 16 := by simp [stB]
theorem put_ok {xs : List It} {x : It} (h1 : stB xs = true) (h2 : itB x = true) (h3 : (ins xs x).length ≤ 16) : putL xs x = ins xs x ∧ putE xs x = 0 ∧ stB (ins xs x) = true := by
  obtain ⟨a, b, c⟩ := stB_iff.1 h1
  exact ⟨by simp [putL, putOk, h1, h2, h3], by simp [putE, putOk, h1, h2, h3], stB_iff.2 ⟨ins_val a h2, ins_srt b, h3⟩⟩
theorem put_full {xs : List It} {x : It} (h1 : stB xs = true) (h2 : itB x = true) (h3 : ¬ (ins xs x).length ≤ 16) : putL xs x = [] ∧ putE xs x = 501 := by
  exact ⟨by simp [putL, putOk, h1, h2, h3], by simp [putE, putOk, h1, h2, h3]⟩
theorem put_form {xs : List It} {x : It} (h : stB xs = false ∨ itB x = false) : putL xs x = [] ∧ putE xs x = 500 := by
  rcases h with h | h <;> exact ⟨by simp [putL, putOk, h], by simp [putE, putOk, h]⟩
theorem putE_zero {xs : List It} {x : It} (h : putE xs x = 0) : stB xs = true ∧ itB x = true ∧ (ins xs x).length ≤ 16 := by
  unfold putE putOk at h
  split at h
  · rename_i h1
    rw [Bool.and_eq_true] at h1
    split at h
    · exact ⟨h1.1, h1.2, by assumption⟩
    · omega
  · omega
/-! ### Putting, from the left -/
theorem ins_app : ∀ {l m : List It} {x : It}, (∀ a ∈ l, a.k < x.k) → ins (l ++ m) x = l ++ ins m x
  | [], _, _, _ => rfl
  | a :: l, m, x, h => by
    have ha := h a List.mem_cons_self
    show (if x.k < a.k then _ else if a.k = x.k then _ else a :: ins (l ++ m) x) = _
    rw [if_neg (by omega), if_neg (by omega), ins_app (fun b hb => h b (List.mem_cons_of_mem _ hb))]
    rfl
theorem ins_app_in : ∀ {l m : List It} {x : It}, (∃ b ∈ l, x.k ≤ b.k) → ins (l ++ m) x = ins l x ++ m
  | [], _, _, h => by obtain ⟨b, hb, _⟩ := h; cases hb
  | a :: l, m, x, h => by
    show (if x.k < a.k then _ else if a.k = x.k then _ else a :: ins (l ++ m) x) = (if x.k < a.k then _ else if a.k = x.k then _ else a :: ins l x) ++ m
    by_cases h1 : x.k < a.k
    · rw [if_pos h1, if_pos h1]; rfl
    · rw [if_neg h1, if_neg h1]
      by_cases h2 : a.k = x.k
      · rw [if_pos h2, if_pos h2]; rfl
      · rw [if_neg h2, if_neg h2]
        obtain ⟨b, hb, hk⟩ := h
        rw [ins_app_in ⟨b, (List.mem_cons.1 hb).resolve_left (by rintro rfl; omega), hk⟩]
        rfl
/-- What stands in the new row once the first k were looked at. -/
def PutRel (xs : List It) (x : It) (k : Nat) (out : List It) (inb : Bool) : Prop :=
  (inb = false ∧ out = xs.take k ∧ ∀ a ∈ xs.take k, a.k < x.k) ∨ (inb = true ∧ out = ins (xs.take k) x ∧ ∃ b ∈ xs.take k, x.k ≤ b.k)
theorem take_next {xs : List It} {k : Nat} (hk : k < xs.length) : xs.take (k + 1) = xs.take k ++ [xs[k]] := List.take_succ_eq_append_getElem hk
theorem PutRel.zero (xs : List It) (x : It) : PutRel xs x 0 [] false := .inl ⟨rfl, by simp, by simp⟩
theorem PutRel.gt {xs : List It} {x : It} {k : Nat} {out : List It} (h : PutRel xs x k out false) (hk : k < xs.length) (hg : x.k < xs[k].k) : PutRel xs x (k + 1) (out ++ [x] ++ [xs[k]]) true := by
  rcases h with ⟨_, rfl, h⟩ | ⟨h, _⟩
  · refine .inr ⟨rfl, ?_, xs[k], ?_, by omega⟩
    · rw [take_next hk, ins_app h]
      show _ = _ ++ (if x.k < xs[k].k then x :: [xs[k]] else _)
      rw [if_pos hg]
      simp
    · rw [take_next hk]; exact List.mem_append_right _ (List.mem_singleton.2 rfl)
  · cases h
theorem PutRel.eq {xs : List It} {x : It} {k : Nat} {out : List It} (h : PutRel xs x k out false) (hk : k < xs.length) (hg : xs[k].k = x.k) : PutRel xs x (k + 1) (out ++ [mx xs[k] x]) true := by
  rcases h with ⟨_, rfl, h⟩ | ⟨h, _⟩
  · refine .inr ⟨rfl, ?_, xs[k], ?_, by omega⟩
    · rw [take_next hk, ins_app h]
      show _ = _ ++ (if x.k < xs[k].k then _ else if xs[k].k = x.k then [mx xs[k] x] else _)
      rw [if_neg (by omega), if_pos hg]
    · rw [take_next hk]; exact List.mem_append_right _ (List.mem_singleton.2 rfl)
  · cases h
theorem PutRel.lt {xs : List It} {x : It} {k : Nat} {out : List It} (h : PutRel xs x k out false) (hk : k < xs.length) (hg : xs[k].k < x.k) : PutRel xs x (k + 1) (out ++ [xs[k]]) false := by
  rcases h with ⟨_, rfl, h⟩ | ⟨h, _⟩
  · refine .inl ⟨rfl, (take_next hk).symm, fun a ha => ?_⟩
    rw [take_next hk] at ha
    rcases List.mem_append.1 ha with ha | ha
    · exact h a ha
    · rw [List.mem_singleton.1 ha]; exact hg
  · cases h
theorem PutRel.in {xs : List It} {x : It} {k : Nat} {out : List It} (h : PutRel xs x k out true) (hs : Srt xs) (hk : k < xs.length) : PutRel xs x (k + 1) (out ++ [xs[k]]) true ∧ x.k < xs[k].k := by
  rcases h with ⟨h, _⟩ | ⟨_, rfl, b, hb, hbk⟩
  · cases h
  · have hlt : b.k < xs[k].k := by
      obtain ⟨j, hj, rfl⟩ := List.mem_iff_getElem.1 hb
      rw [List.getElem_take]
      have hjk : j < k := by simp at hj; omega
      exact List.pairwise_iff_getElem.1 hs _ _ _ _ hjk
    refine ⟨.inr ⟨rfl, ?_, b, ?_, hbk⟩, by omega⟩
    · rw [take_next hk, ins_app_in ⟨b, hb, hbk⟩]
    · rw [take_next hk]; exact List.mem_append_left _ hb
theorem PutRel.end {xs : List It} {x : It} {out : List It} {inb : Bool} (h : PutRel xs x xs.length out inb) : ins xs x = if inb = true then out else out ++ [x] := by
  rcases h with ⟨rfl, rfl, h⟩ | ⟨rfl, rfl, _⟩
  · rw [List.take_length] at h ⊢
    have := ins_app (m := []) h
    simpa [ins] using this
  · simp

end Go.Proofs.Ytnadallefpahjaa
