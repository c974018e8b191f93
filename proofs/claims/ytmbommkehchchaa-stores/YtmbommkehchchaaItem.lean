/-
  Contracts of package item's functions and of the document's own answers (may it be; the best of two), at every two items: what they return, and that no old memory has turned.
-/
import Derived.Test.YtmbommkehchchaaVer
namespace Go.Proofs.Ytmbommkehchchaa
open Go.ChangeShapes Go.WideShapes Go.ChangeAt Go.RowKit

/-! ### Plain items -/
def byB (x : Int) : Bool := decide (0 ≤ x ∧ x ≤ 255)
def itB (i : It) : Bool := byB i.k && (byB i.x && (verB i.c i.u && (!i.g || decide (i.x = 0))))
/-- of one version -/
def oneB (a b : It) : Bool := if a.g = b.g then decide (b.x < a.x) else a.g
/-- is the first better than the second? -/
def betB (a b : It) : Bool := if a.c = b.c ∧ a.u = b.u then oneB a b else newB a.c a.u b.c b.u
def okB (a b : It) : Bool := itB a && (itB b && decide (a.k = b.k))
def bstI (a b : It) : It := if okB a b = true then (if betB b a = true then b else a) else ⟨0, 0, 0, 0, false⟩
def bstE (a b : It) : Int := if okB a b = true then 0 else 400

theorem newB_E {c u d v : Int} (h : newB c u d v = true) : newE c u d v = 0 := by
  simp only [newB, Bool.and_eq_true] at h
  simp [newE, h.1]

/-! ### The functions -/
theorem iIsByte_any (a : Int) (w : World) :
    Calls Try.prog 33 #[.int .i64 a] w fun e w' => e = .returned (.bool (byB a)) ∧ w' = w := by
  by_cases h1 : 0 ≤ a
  · have e : byB a = decide (a ≤ 255) := by simp [byB, h1]
    rw [e]
    clear e
    go_enter Try.func33, Try.ntmps33
    go_wp2
    go_ret
    exact ⟨rfl, rfl⟩
  · have e : byB a = false := by simp [byB, h1]
    have hd : decide (0 ≤ a) = false := by simpa using h1
    rw [e]
    clear e
    go_enter Try.func33, Try.ntmps33
    go_wp2
    go_ret
    exact ⟨rfl, rfl⟩

set_option maxHeartbeats 1000000 in
theorem iMay_any (k c u x : Int) (g : Bool) (w : World) :
    Calls Try.prog 24 #[.agg #[.int .i64 k, .int .i64 c, .int .i64 u, .int .i64 x, .bool g]] w fun e w' => e = .returned (.bool (itB ⟨k, c, u, x, g⟩)) ∧ Below w.heap.size w w' := by
  by_cases hg : g = true ∧ ¬ x = 0
  · obtain ⟨rfl, hx⟩ := hg
    have e : itB ⟨k, c, u, x, true⟩ = false := by simp [itB, hx]
    rw [e]
    clear e
    go_enter Try.func24, Try.ntmps24
    go_wp2_with fail
    go_ret
    exact ⟨rfl, (Below.refl _ w).onA _⟩
  · have e : itB ⟨k, c, u, x, g⟩ = (byB k && (byB x && verB c u)) := by
      cases g <;> simp_all [itB]
    rw [e]
    clear e
    have hg' : g = false ∨ (g = true ∧ x = 0) := by cases g <;> simp_all
    clear hg
    rcases hg' with rfl | ⟨rfl, rfl⟩
    all_goals
      rcases Bool.eq_false_or_eq_true (byB k) with hk | hk
      · rcases Bool.eq_false_or_eq_true (byB _) with hx | hx
        all_goals
          rw [hk, hx]
          have t1 := trivial
          go_enter Try.func24, Try.ntmps24
          go_wp2_with (first
            | (go_at_call 33; clear t1; refine (iIsByte_any _ _).mono ?_; rintro e w' ⟨rfl, hw'⟩; subst w')
            | (go_at_call 33; refine (iIsByte_any _ _).mono ?_; rintro e w' ⟨rfl, hw'⟩; subst w')
            | (go_at_call 34; refine (may_any _ _ _).mono ?_; rintro e w2 ⟨rfl, hb2⟩))
          go_ret
          first
            | exact ⟨by simp, ((Below.refl _ w).onA _).on hb2⟩
            | exact ⟨rfl, (Below.refl _ w).onA _⟩
      · rw [hk]
        go_enter Try.func24, Try.ntmps24
        go_wp2_with (first
            | (go_at_call 33; refine (iIsByte_any _ _).mono ?_; rintro e w' ⟨rfl, hw'⟩; subst w'))
        go_ret
        exact ⟨rfl, (Below.refl _ w).onA _⟩

theorem iOne_any (k c u x : Int) (g : Bool) (l d v y : Int) (h : Bool) (w : World) :
    Calls Try.prog 46 #[.agg #[.int .i64 k, .int .i64 c, .int .i64 u, .int .i64 x, .bool g], .agg #[.int .i64 l, .int .i64 d, .int .i64 v, .int .i64 y, .bool h]] w fun e w' => e = .returned (.bool (oneB ⟨k, c, u, x, g⟩ ⟨l, d, v, y, h⟩)) ∧ Below w.heap.size w w' := by
  cases g <;> cases h
  all_goals
    simp only [oneB]
    go_enter Try.func46, Try.ntmps46
    go_wp2
    go_ret
    exact ⟨rfl, ((Below.refl _ w).onA _).onA _⟩

set_option maxHeartbeats 1000000 in
theorem iBet_any (k c u x : Int) (g : Bool) (l d v y : Int) (h : Bool) (w : World) :
    Calls Try.prog 43 #[.agg #[.int .i64 k, .int .i64 c, .int .i64 u, .int .i64 x, .bool g], .agg #[.int .i64 l, .int .i64 d, .int .i64 v, .int .i64 y, .bool h]] w fun e w' => e = .returned (.bool (betB ⟨k, c, u, x, g⟩ ⟨l, d, v, y, h⟩)) ∧ Below w.heap.size w w' := by
  by_cases hv : c = d ∧ u = v
  · obtain ⟨rfl, rfl⟩ := hv
    have e : betB ⟨k, c, u, x, g⟩ ⟨l, c, u, y, h⟩ = oneB ⟨k, c, u, x, g⟩ ⟨l, c, u, y, h⟩ := by simp [betB]
    rw [e]
    clear e
    go_enter Try.func43, Try.ntmps43
    go_wp2_with (first
      | (go_at_call 46; refine (iOne_any _ _ _ _ _ _ _ _ _ _ _).mono ?_; rintro e w2 ⟨rfl, hb2⟩))
    go_ret
    exact ⟨rfl, (((Below.refl _ w).onA _).onA _).on hb2⟩
  · have e : betB ⟨k, c, u, x, g⟩ ⟨l, d, v, y, h⟩ = newB c u d v := by simp [betB, hv]
    rw [e]
    clear e
    have hv' : ¬ c = d ∨ (c = d ∧ ¬ u = v) := by
      by_cases h1 : c = d
      · exact Or.inr ⟨h1, fun h2 => hv ⟨h1, h2⟩⟩
      · exact Or.inl h1
    clear hv
    rcases Bool.eq_false_or_eq_true (newB c u d v) with hn | hn
    · have he : newE c u d v = 0 := newB_E hn
      rw [hn]
      rcases hv' with hv | ⟨rfl, hv⟩
      all_goals
        go_enter Try.func43, Try.ntmps43
        go_wp2_with (first
          | (go_at_call 47; refine (newer_any _ _ _ _ _).mono ?_; rintro e w2 ⟨rfl, hb2⟩))
        go_ret
        exact ⟨rfl, (((Below.refl _ w).onA _).onA _).on hb2⟩
    · rw [hn]
      rcases hv' with hv | ⟨rfl, hv⟩
      all_goals
        go_enter Try.func43, Try.ntmps43
        go_wp2_with (first
          | (go_at_call 47; refine (newer_any _ _ _ _ _).mono ?_; rintro e w2 ⟨rfl, hb2⟩))
        go_ret
        exact ⟨rfl, (((Below.refl _ w).onA _).onA _).on hb2⟩

theorem bst_no {a b : It} (h : okB a b = false) : bstI a b = ⟨0, 0, 0, 0, false⟩ ∧ bstE a b = 400 := by simp [bstI, bstE, h]
theorem bst_yes {a b : It} (h : okB a b = true) : bstI a b = (if betB b a = true then b else a) ∧ bstE a b = 0 := by simp [bstI, bstE, h]

theorem _root_.Go.RowKit.Below.set5 {N b : Nat} {w w' : World} (h : Below N w w') (hb : N ≤ b) (v0 v1 v2 v3 v4 : Value) : Below N w (((((w'.setCell ⟨b, 0, none⟩ v0).setCell ⟨b, 1, none⟩ v1).setCell ⟨b, 2, none⟩ v2).setCell ⟨b, 3, none⟩ v3).setCell ⟨b, 4, none⟩ v4) :=
  ((((h.setCell hb _).setCell hb _).setCell hb _).setCell hb _).setCell hb _
set_option maxHeartbeats 1000000 in
theorem iBest_b (k c u x : Int) (g : Bool) (d v y : Int) (h : Bool) (w : World) (ha : itB ⟨k, c, u, x, g⟩ = true) (hb : itB ⟨k, d, v, y, h⟩ = true) (hw : betB ⟨k, d, v, y, h⟩ ⟨k, c, u, x, g⟩ = true) :
    Calls Try.prog 38 #[.agg #[.int .i64 k, .int .i64 c, .int .i64 u, .int .i64 x, .bool g], .agg #[.int .i64 k, .int .i64 d, .int .i64 v, .int .i64 y, .bool h]] w fun e w' => e = .returned (.tuple #[.agg #[.int .i64 k, .int .i64 d, .int .i64 v, .int .i64 y, .bool h], .int .i64 0]) ∧ Below w.heap.size w w' := by
  have t1 := trivial
  go_enter Try.func38, Try.ntmps38
  go_wp2_with (first
    | (go_at_call 24; clear t1; refine (iMay_any _ _ _ _ _ _).mono ?_; rintro e w1 ⟨rfl, hb1⟩; obtain ⟨hc1, hf1⟩ := bcell hb1)
    | (go_at_call 24; refine (iMay_any _ _ _ _ _ _).mono ?_; rintro e w2 ⟨rfl, hb2⟩; replace hb2 := hb1.on hb2; clear hb1 hc1 hf1; obtain ⟨hc2, hf2⟩ := bcell hb2)
    | (go_at_call 43; refine (iBet_any _ _ _ _ _ _ _ _ _ _ _).mono ?_; rintro e w3 ⟨rfl, hb3⟩; replace hb3 := hb2.on hb3; clear hb2 hc2 hf2; obtain ⟨hc3, hf3⟩ := bcell hb3))
  exact bodyPost_ret (v := .tuple #[.agg #[.int .i64 k, .int .i64 d, .int .i64 v, .int .i64 y, .bool h], .int .i64 0]) (by simp [results, Try.results38, go_sem, hc3]) rfl ⟨rfl, (((((Below.refl _ w).onA _).onA _).onA _).on hb3).set5 (Nat.le_succ_of_le (Nat.le_succ _)) _ _ _ _ _⟩

set_option maxHeartbeats 1000000 in
theorem iBest_a (k c u x : Int) (g : Bool) (d v y : Int) (h : Bool) (w : World) (ha : itB ⟨k, c, u, x, g⟩ = true) (hb : itB ⟨k, d, v, y, h⟩ = true) (hw : betB ⟨k, d, v, y, h⟩ ⟨k, c, u, x, g⟩ = false) :
    Calls Try.prog 38 #[.agg #[.int .i64 k, .int .i64 c, .int .i64 u, .int .i64 x, .bool g], .agg #[.int .i64 k, .int .i64 d, .int .i64 v, .int .i64 y, .bool h]] w fun e w' => e = .returned (.tuple #[.agg #[.int .i64 k, .int .i64 c, .int .i64 u, .int .i64 x, .bool g], .int .i64 0]) ∧ Below w.heap.size w w' := by
  have t1 := trivial
  go_enter Try.func38, Try.ntmps38
  go_wp2_with (first
    | (go_at_call 24; clear t1; refine (iMay_any _ _ _ _ _ _).mono ?_; rintro e w1 ⟨rfl, hb1⟩; obtain ⟨hc1, hf1⟩ := bcell hb1)
    | (go_at_call 24; refine (iMay_any _ _ _ _ _ _).mono ?_; rintro e w2 ⟨rfl, hb2⟩; replace hb2 := hb1.on hb2; clear hb1 hc1 hf1; obtain ⟨hc2, hf2⟩ := bcell hb2)
    | (go_at_call 43; refine (iBet_any _ _ _ _ _ _ _ _ _ _ _).mono ?_; rintro e w3 ⟨rfl, hb3⟩; replace hb3 := hb2.on hb3; clear hb2 hc2 hf2; obtain ⟨hc3, hf3⟩ := bcell hb3))
  exact bodyPost_ret (v := .tuple #[.agg #[.int .i64 k, .int .i64 c, .int .i64 u, .int .i64 x, .bool g], .int .i64 0]) (by simp [results, Try.results38, go_sem, hc3]) rfl ⟨rfl, (((((Below.refl _ w).onA _).onA _).onA _).on hb3).set5 (Nat.le_succ_of_le (Nat.le_succ _)) _ _ _ _ _⟩

set_option maxHeartbeats 1000000 in
theorem iBest_no (k c u x : Int) (g : Bool) (l d v y : Int) (h : Bool) (w : World) (hn : okB ⟨k, c, u, x, g⟩ ⟨l, d, v, y, h⟩ = false) :
    Calls Try.prog 38 #[.agg #[.int .i64 k, .int .i64 c, .int .i64 u, .int .i64 x, .bool g], .agg #[.int .i64 l, .int .i64 d, .int .i64 v, .int .i64 y, .bool h]] w fun e w' => e = .returned (.tuple #[.agg #[.int .i64 0, .int .i64 0, .int .i64 0, .int .i64 0, .bool false], .int .i64 400]) ∧ Below w.heap.size w w' := by
  have t1 := trivial
  rcases Bool.eq_false_or_eq_true (itB ⟨k, c, u, x, g⟩) with ha | ha
  · rcases Bool.eq_false_or_eq_true (itB ⟨l, d, v, y, h⟩) with hb | hb
    · have hk : ¬ k = l := by simpa [okB, ha, hb] using hn
      clear hn
      go_enter Try.func38, Try.ntmps38
      go_wp2_with (first
        | (go_at_call 24; clear t1; refine (iMay_any _ _ _ _ _ _).mono ?_; rintro e w1 ⟨rfl, hb1⟩; obtain ⟨hc1, hf1⟩ := bcell hb1)
        | (go_at_call 24; refine (iMay_any _ _ _ _ _ _).mono ?_; rintro e w2 ⟨rfl, hb2⟩; replace hb2 := hb1.on hb2; clear hb1 hc1 hf1; obtain ⟨hc2, hf2⟩ := bcell hb2))
      exact bodyPost_ret (v := .tuple #[.agg #[.int .i64 0, .int .i64 0, .int .i64 0, .int .i64 0, .bool false], .int .i64 400]) (by simp [results, Try.results38, go_sem, hc2]) rfl ⟨rfl, (((((Below.refl _ w).onA _).onA _).onA _).on hb2).set5 (Nat.le_succ_of_le (Nat.le_succ _)) _ _ _ _ _⟩
    · clear hn
      go_enter Try.func38, Try.ntmps38
      go_wp2_with (first
        | (go_at_call 24; clear t1; refine (iMay_any _ _ _ _ _ _).mono ?_; rintro e w1 ⟨rfl, hb1⟩; obtain ⟨hc1, hf1⟩ := bcell hb1)
        | (go_at_call 24; refine (iMay_any _ _ _ _ _ _).mono ?_; rintro e w2 ⟨rfl, hb2⟩; replace hb2 := hb1.on hb2; clear hb1 hc1 hf1; obtain ⟨hc2, hf2⟩ := bcell hb2))
      exact bodyPost_ret (v := .tuple #[.agg #[.int .i64 0, .int .i64 0, .int .i64 0, .int .i64 0, .bool false], .int .i64 400]) (by simp [results, Try.results38, go_sem, hc2]) rfl ⟨rfl, (((((Below.refl _ w).onA _).onA _).onA _).on hb2).set5 (Nat.le_succ_of_le (Nat.le_succ _)) _ _ _ _ _⟩
  · clear hn
    go_enter Try.func38, Try.ntmps38
    go_wp2_with (first
      | (go_at_call 24; clear t1; refine (iMay_any _ _ _ _ _ _).mono ?_; rintro e w1 ⟨rfl, hb1⟩; obtain ⟨hc1, hf1⟩ := bcell hb1))
    exact bodyPost_ret (v := .tuple #[.agg #[.int .i64 0, .int .i64 0, .int .i64 0, .int .i64 0, .bool false], .int .i64 400]) (by simp [results, Try.results38, go_sem, hc1]) rfl ⟨rfl, (((((Below.refl _ w).onA _).onA _).onA _).on hb1).set5 (Nat.le_succ_of_le (Nat.le_succ _)) _ _ _ _ _⟩

theorem iBest_any (k c u x : Int) (g : Bool) (l d v y : Int) (h : Bool) (w : World) :
    Calls Try.prog 38 #[.agg #[.int .i64 k, .int .i64 c, .int .i64 u, .int .i64 x, .bool g], .agg #[.int .i64 l, .int .i64 d, .int .i64 v, .int .i64 y, .bool h]] w fun e w' =>
      e = .returned (.tuple #[.agg #[.int .i64 (bstI ⟨k, c, u, x, g⟩ ⟨l, d, v, y, h⟩).k, .int .i64 (bstI ⟨k, c, u, x, g⟩ ⟨l, d, v, y, h⟩).c, .int .i64 (bstI ⟨k, c, u, x, g⟩ ⟨l, d, v, y, h⟩).u, .int .i64 (bstI ⟨k, c, u, x, g⟩ ⟨l, d, v, y, h⟩).x, .bool (bstI ⟨k, c, u, x, g⟩ ⟨l, d, v, y, h⟩).g], .int .i64 (bstE ⟨k, c, u, x, g⟩ ⟨l, d, v, y, h⟩)]) ∧ Below w.heap.size w w' := by
  rcases Bool.eq_false_or_eq_true (okB ⟨k, c, u, x, g⟩ ⟨l, d, v, y, h⟩) with ho | ho
  · obtain ⟨e1, e2⟩ := bst_yes ho
    simp only [okB, Bool.and_eq_true, decide_eq_true_eq] at ho
    obtain ⟨ha, hb, rfl⟩ := ho
    rw [e1, e2]
    rcases Bool.eq_false_or_eq_true (betB ⟨k, d, v, y, h⟩ ⟨k, c, u, x, g⟩) with hw | hw
    · rw [if_pos hw]
      exact iBest_b _ _ _ _ _ _ _ _ _ _ ha hb hw
    · rw [if_neg (by simp [hw])]
      exact iBest_a _ _ _ _ _ _ _ _ _ _ ha hb hw
  · obtain ⟨e1, e2⟩ := bst_no ho
    rw [e1, e2]
    exact iBest_no _ _ _ _ _ _ _ _ _ _ _ ho

end Go.Proofs.Ytmbommkehchchaa
