/-
  Contracts of package version's functions and of the document's own answers (may it be; is it newer), at every two numbers each: what they return, and that no old memory has turned.
-/
import Derived.Test.YtmbommkehchchaaRing
import Derived.Test.YtmbommkehchchaaRingRef
import Derived.Test.YtmbommkehchchaaBase
namespace Go.Proofs.Ytmbommkehchchaa
open Go.ChangeShapes Go.WideShapes Go.ChangeAt Go.RowKit

/-! ### Plain numbers -/
def cntB (c : Int) : Bool := decide (1 ≤ c ∧ c ≤ 65535)
def verB (c u : Int) : Bool := cntB c && plB u
def gtB (c u d v : Int) : Bool := decide (d < c) || (decide (c = d) && decide (v < u))
def newB (c u d v : Int) : Bool := (verB c u && verB d v) && gtB c u d v
def newE (c u d v : Int) : Int := if (verB c u && verB d v) = true then 0 else 300

theorem newB_yes {c u d v : Int} (h1 : verB c u = true) (h2 : verB d v = true) : newB c u d v = gtB c u d v ∧ newE c u d v = 0 := by simp [newB, newE, h1, h2]
theorem newB_no {c u d v : Int} (h : verB c u = false ∨ verB d v = false) : newB c u d v = false ∧ newE c u d v = 300 := by
  rcases h with h | h <;> simp [newB, newE, h]

theorem bcell {W w1 : World} (hb : Below W.heap.size W w1) : (∀ b o, b < W.heap.size → w1.cell? ⟨b, o, none⟩ = W.cell? ⟨b, o, none⟩) ∧ (∀ b o, b < W.heap.size → w1.frozen? ⟨b, o, none⟩ = W.frozen? ⟨b, o, none⟩) :=
  ⟨fun b o h => hb.cell (p := ⟨b, o, none⟩) h, fun b o h => hb.frozen (p := ⟨b, o, none⟩) h⟩

/-! ### The functions -/
theorem vIsPlace_any (a : Int) (w : World) :
    Calls Try.prog 41 #[.int .i64 a] w fun e w' => e = .returned (.bool (plB a)) ∧ w' = w := by
  by_cases h : plB a = true
  · rw [h]
    go_enter Try.func41, Try.ntmps41
    go_wp2_with (first | (go_at_call 44; refine (distance_yes _ _ _ h h).mono ?_; rintro e w' ⟨rfl, rfl⟩))
    go_ret
    exact ⟨rfl, rfl⟩
  · have h : plB a = false := by simpa using h
    rw [h]
    go_enter Try.func41, Try.ntmps41
    go_wp2_with (first | (go_at_call 44; refine (distance_no _ _ _ (Or.inl h)).mono ?_; rintro e w' ⟨rfl, rfl⟩))
    go_ret
    exact ⟨rfl, rfl⟩

theorem may_any (c u : Int) (w : World) :
    Calls Try.prog 34 #[.agg #[.int .i64 c, .int .i64 u]] w fun e w' => e = .returned (.bool (verB c u)) ∧ Below w.heap.size w w' := by
  by_cases h1 : 1 ≤ c
  · by_cases h2 : c ≤ 65535
    · have e : verB c u = plB u := by simp [verB, cntB, h1, h2]
      rw [e]
      clear e
      go_enter Try.func34, Try.ntmps34
      go_wp2_with (first | (go_at_call 41; refine (vIsPlace_any _ _).mono ?_; rintro e w' ⟨rfl, hw'⟩; subst w'))
      go_ret
      exact ⟨rfl, (Below.refl _ w).onA _⟩
    · have e : verB c u = false := by simp [verB, cntB, h2]
      have hd : decide (c ≤ 65535) = false := by simpa using h2
      rw [e]
      clear e
      go_enter Try.func34, Try.ntmps34
      go_wp2_with fail
      go_ret
      exact ⟨rfl, (Below.refl _ w).onA _⟩
  · have e : verB c u = false := by simp [verB, cntB, h1]
    have hd : decide (1 ≤ c) = false := by simpa using h1
    rw [e]
    clear e
    go_enter Try.func34, Try.ntmps34
    go_wp2_with fail
    go_ret
    exact ⟨rfl, (Below.refl _ w).onA _⟩

set_option maxHeartbeats 1000000 in
theorem newer_any (c u d v : Int) (w : World) :
    Calls Try.prog 47 #[.agg #[.int .i64 c, .int .i64 u], .agg #[.int .i64 d, .int .i64 v]] w fun e w' => e = .returned (.tuple #[.bool (newB c u d v), .int .i64 (newE c u d v)]) ∧ Below w.heap.size w w' := by
  by_cases h1 : verB c u = true
  · by_cases h2 : verB d v = true
    · obtain ⟨e1, e2⟩ := newB_yes h1 h2
      rw [e1, e2]
      clear e1 e2
      have t1 := trivial
      by_cases h3 : c = d
      · subst h3
        have e3 : gtB c u c v = decide (v < u) := by simp [gtB]
        rw [e3]
        clear e3
        go_enter Try.func47, Try.ntmps47
        go_wp2_with (first
          | (go_at_call 34; clear t1; refine (may_any _ _ _).mono ?_; rintro e w1 ⟨rfl, hb1⟩; obtain ⟨hc1, hf1⟩ := bcell hb1)
          | (go_at_call 34; refine (may_any _ _ _).mono ?_; rintro e w2 ⟨rfl, hb2⟩; replace hb2 := hb1.on hb2; clear hb1 hc1 hf1; obtain ⟨hc2, hf2⟩ := bcell hb2))
        go_ret2
        exact ⟨rfl, (((Below.refl _ w).onA _).onA _).on hb2⟩
      · have e3 : gtB c u d v = decide (d < c) := by simp [gtB, h3]
        rw [e3]
        clear e3
        go_enter Try.func47, Try.ntmps47
        go_wp2_with (first
          | (go_at_call 34; clear t1; refine (may_any _ _ _).mono ?_; rintro e w1 ⟨rfl, hb1⟩; obtain ⟨hc1, hf1⟩ := bcell hb1)
          | (go_at_call 34; refine (may_any _ _ _).mono ?_; rintro e w2 ⟨rfl, hb2⟩; replace hb2 := hb1.on hb2; clear hb1 hc1 hf1; obtain ⟨hc2, hf2⟩ := bcell hb2))
        go_ret2
        exact ⟨rfl, (((Below.refl _ w).onA _).onA _).on hb2⟩
    · have h2 : verB d v = false := by simpa using h2
      obtain ⟨e1, e2⟩ := newB_no (c := c) (u := u) (Or.inr h2)
      rw [e1, e2]
      clear e1 e2
      have t1 := trivial
      go_enter Try.func47, Try.ntmps47
      go_wp2_with (first
        | (go_at_call 34; clear t1; refine (may_any _ _ _).mono ?_; rintro e w1 ⟨rfl, hb1⟩; obtain ⟨hc1, hf1⟩ := bcell hb1)
        | (go_at_call 34; refine (may_any _ _ _).mono ?_; rintro e w2 ⟨rfl, hb2⟩))
      go_ret2
      exact ⟨rfl, ((((Below.refl _ w).onA _).onA _).on hb1).on hb2⟩
  · have h1 : verB c u = false := by simpa using h1
    obtain ⟨e1, e2⟩ := newB_no (d := d) (v := v) (Or.inl h1)
    rw [e1, e2]
    clear e1 e2
    go_enter Try.func47, Try.ntmps47
    go_wp2_with (first
      | (go_at_call 34; refine (may_any _ _ _).mono ?_; rintro e w1 ⟨rfl, hb1⟩))
    go_ret2
    exact ⟨rfl, (((Below.refl _ w).onA _).onA _).on hb1⟩

theorem newer_bad (c u d v : Int) (w : World) (h : verB c u = false ∨ verB d v = false) :
    Calls Try.prog 47 #[.agg #[.int .i64 c, .int .i64 u], .agg #[.int .i64 d, .int .i64 v]] w fun e w' => e = .returned (.tuple #[.bool false, .int .i64 300]) ∧ Below w.heap.size w w' := by
  obtain ⟨e1, e2⟩ := newB_no h
  have := newer_any c u d v w
  rwa [e1, e2] at this
theorem newer_good (c u d v : Int) (w : World) (h1 : verB c u = true) (h2 : verB d v = true) :
    Calls Try.prog 47 #[.agg #[.int .i64 c, .int .i64 u], .agg #[.int .i64 d, .int .i64 v]] w fun e w' => e = .returned (.tuple #[.bool (gtB c u d v), .int .i64 0]) ∧ Below w.heap.size w w' := by
  obtain ⟨e1, e2⟩ := newB_yes h1 h2
  have := newer_any c u d v w
  rwa [e1, e2] at this
theorem may_bad (c u : Int) (w : World) (h : verB c u = false) :
    Calls Try.prog 34 #[.agg #[.int .i64 c, .int .i64 u]] w fun e w' => e = .returned (.bool false) ∧ Below w.heap.size w w' := h ▸ may_any c u w
theorem may_good (c u : Int) (w : World) (h : verB c u = true) :
    Calls Try.prog 34 #[.agg #[.int .i64 c, .int .i64 u]] w fun e w' => e = .returned (.bool true) ∧ Below w.heap.size w w' := h ▸ may_any c u w

theorem and3 (n : Int) : bits .and .i64 n 3 = n % 4 := by
  have h1 : (BitVec.ofInt 64 3).toNat = 2 ^ 2 - 1 := by decide
  have key : (BitVec.ofInt 64 n &&& BitVec.ofInt 64 3).toNat = (n % ((2 ^ 64 : Nat) : Int)).toNat % 2 ^ 2 := by
    rw [BitVec.toNat_and, BitVec.toNat_ofInt, h1, Nat.and_two_pow_sub_one_eq_mod]
  show IntKind.i64.wrap ((BitVec.ofInt 64 n &&& BitVec.ofInt 64 3).toNat : Nat) = n % 4
  rw [key, IntKind.wrap_i64]
  omega

theorem rMay_any (c u : Int) (w : World) :
    Calls Try.prog 32 #[.agg #[.int .i64 c, .int .i64 u]] w fun e w' => e = .returned (.bool (verB c u)) ∧ Below w.heap.size w w' := by
  by_cases h1 : 1 ≤ c
  · by_cases h2 : c ≤ 65535
    · have e : verB c u = plB u := by simp [verB, cntB, h1, h2]
      rw [e]
      clear e
      go_enter Try.func32, Try.ntmps32
      go_wp2_with (first | (go_at_call 40; refine (rPlaceMay_any _ _).mono ?_; rintro e w' ⟨rfl, hw'⟩; subst w'))
      go_ret
      exact ⟨rfl, (Below.refl _ w).onA _⟩
    · have e : verB c u = false := by simp [verB, cntB, h2]
      have hd : decide (c ≤ 65535) = false := by simpa using h2
      rw [e]
      clear e
      go_enter Try.func32, Try.ntmps32
      go_wp2_with fail
      go_ret
      exact ⟨rfl, (Below.refl _ w).onA _⟩
  · have e : verB c u = false := by simp [verB, cntB, h1]
    have hd : decide (1 ≤ c) = false := by simpa using h1
    rw [e]
    clear e
    go_enter Try.func32, Try.ntmps32
    go_wp2_with fail
    go_ret
    exact ⟨rfl, (Below.refl _ w).onA _⟩

set_option maxHeartbeats 1000000 in
theorem rNewer_any (c u d v : Int) (w : World) :
    Calls Try.prog 39 #[.agg #[.int .i64 c, .int .i64 u], .agg #[.int .i64 d, .int .i64 v]] w fun e w' => e = .returned (.tuple #[.bool (newB c u d v), .int .i64 (newE c u d v)]) ∧ Below w.heap.size w w' := by
  by_cases h1 : verB c u = true
  · by_cases h2 : verB d v = true
    · obtain ⟨e1, e2⟩ := newB_yes h1 h2
      rw [e1, e2]
      clear e1 e2
      have t1 := trivial
      by_cases h3 : c = d
      · subst h3
        have e3 : gtB c u c v = decide (v < u) := by simp [gtB]
        rw [e3]
        clear e3
        have h4 : decide (c < c) = false := by simp
        go_enter Try.func39, Try.ntmps39
        go_wp2_with (first
          | (go_at_call 32; clear t1; refine (rMay_any _ _ _).mono ?_; rintro e w1 ⟨rfl, hb1⟩; obtain ⟨hc1, hf1⟩ := bcell hb1)
          | (go_at_call 32; refine (rMay_any _ _ _).mono ?_; rintro e w2 ⟨rfl, hb2⟩; replace hb2 := hb1.on hb2; clear hb1 hc1 hf1; obtain ⟨hc2, hf2⟩ := bcell hb2))
        go_ret2
        exact ⟨rfl, (((Below.refl _ w).onA _).onA _).on hb2⟩
      · have h5 : (c == d) = false := by simpa using h3
        have e3 : gtB c u d v = decide (d < c) := by simp [gtB, h3]
        rw [e3]
        clear e3
        by_cases h4 : d < c
        · rw [decide_eq_true h4]
          go_enter Try.func39, Try.ntmps39
          go_wp2_with (first
            | (go_at_call 32; clear t1; refine (rMay_any _ _ _).mono ?_; rintro e w1 ⟨rfl, hb1⟩; obtain ⟨hc1, hf1⟩ := bcell hb1)
            | (go_at_call 32; refine (rMay_any _ _ _).mono ?_; rintro e w2 ⟨rfl, hb2⟩; replace hb2 := hb1.on hb2; clear hb1 hc1 hf1; obtain ⟨hc2, hf2⟩ := bcell hb2))
          go_ret2
          exact ⟨rfl, (((Below.refl _ w).onA _).onA _).on hb2⟩
        · have h6 : decide (d < c) = false := by simpa using h4
          rw [h6]
          go_enter Try.func39, Try.ntmps39
          go_wp2_with (first
            | (go_at_call 32; clear t1; refine (rMay_any _ _ _).mono ?_; rintro e w1 ⟨rfl, hb1⟩; obtain ⟨hc1, hf1⟩ := bcell hb1)
            | (go_at_call 32; refine (rMay_any _ _ _).mono ?_; rintro e w2 ⟨rfl, hb2⟩; replace hb2 := hb1.on hb2; clear hb1 hc1 hf1; obtain ⟨hc2, hf2⟩ := bcell hb2))
          go_ret2
          exact ⟨rfl, (((Below.refl _ w).onA _).onA _).on hb2⟩
    · have h2 : verB d v = false := by simpa using h2
      obtain ⟨e1, e2⟩ := newB_no (c := c) (u := u) (Or.inr h2)
      rw [e1, e2]
      clear e1 e2
      have t1 := trivial
      go_enter Try.func39, Try.ntmps39
      go_wp2_with (first
        | (go_at_call 32; clear t1; refine (rMay_any _ _ _).mono ?_; rintro e w1 ⟨rfl, hb1⟩; obtain ⟨hc1, hf1⟩ := bcell hb1)
        | (go_at_call 32; refine (rMay_any _ _ _).mono ?_; rintro e w2 ⟨rfl, hb2⟩))
      go_ret2
      exact ⟨rfl, ((((Below.refl _ w).onA _).onA _).on hb1).on hb2⟩
  · have h1 : verB c u = false := by simpa using h1
    obtain ⟨e1, e2⟩ := newB_no (d := d) (v := v) (Or.inl h1)
    rw [e1, e2]
    clear e1 e2
    go_enter Try.func39, Try.ntmps39
    go_wp2_with (first
      | (go_at_call 32; refine (rMay_any _ _ _).mono ?_; rintro e w1 ⟨rfl, hb1⟩))
    go_ret2
    exact ⟨rfl, (((Below.refl _ w).onA _).onA _).on hb1⟩


end Go.Proofs.Ytmbommkehchchaa
