
/-
  Contracts of package version's functions and of the document's own answers (may it be; is it newer), at every two numbers each: what they return, and that no old memory has turned.
-/
import Derived.Test.YtgcdbkhicpfklaaPlaceMath
import Derived.Test.YtgcdbkhicpfklaaRingRef
import Derived.Test.YtgcdbkhicpfklaaBase
import Derived.Test.YtgcdbkhicpfklaaOld
namespace Go.Proofs.Ytgcdbkhicpfklaa
open Go.ChangeShapes Go.WideShapes Go.ChangeAt Go.RowKit

/-! ### Plain numbers -/
def cntB (c : Int) : Bool := decide (1 ≤ c ∧ c ≤ 65535)
def verB (c u : Int) : Bool := cntB c && plB u
def gtB (c u d v : Int) : Bool := decide (d < c) || (decide (c = d) && decide (v < u))
def newB (c u d v : Int) : Bool := (verB c u && verB d v) && gtB c u d v
/-! ### The functions -/
theorem vIsPlace_any (a : Int) (w : World) :
    Calls Try.prog 84 #[.int .i64 a] w fun e w' => e = .returned (.bool (plB a)) ∧ w' = w := by
  by_cases h : plB a = true
  · rw [h]
    go_enter Try.func84, Try.ntmps84
    go_wp2_with (first | (go_at_call 40; refine (distance_yes _ _ _ h h).mono ?_; rintro e w' ⟨rfl, rfl⟩))
    go_ret
    exact ⟨rfl, rfl⟩
  · have h : plB a = false := by simpa using h
    rw [h]
    go_enter Try.func84, Try.ntmps84
    go_wp2_with (first | (go_at_call 40; refine (distance_no _ _ _ (Or.inl h)).mono ?_; rintro e w' ⟨rfl, rfl⟩))
    go_ret
    exact ⟨rfl, rfl⟩

theorem may_any (c u : Int) (w : World) :
    Calls Try.prog 82 #[.agg #[.int .i64 c, .int .i64 u]] w fun e w' => e = .returned (.bool (verB c u)) ∧ Below w.heap.size w w' := by
  by_cases h1 : 1 ≤ c
  · by_cases h2 : c ≤ 65535
    · have e : verB c u = plB u := by simp [verB, cntB, h1, h2]
      rw [e]
      clear e
      go_enter Try.func82, Try.ntmps82
      go_wp2_with (first | (go_at_call 84; refine (vIsPlace_any _ _).mono ?_; rintro e w' ⟨rfl, hw'⟩; subst w'))
      go_ret
      exact ⟨rfl, (Below.refl _ w).onA _⟩
    · have e : verB c u = false := by simp [verB, cntB, h2]
      have hd : decide (c ≤ 65535) = false := by simpa using h2
      rw [e]
      clear e
      go_enter Try.func82, Try.ntmps82
      go_wp2_with fail
      go_ret
      exact ⟨rfl, (Below.refl _ w).onA _⟩
  · have e : verB c u = false := by simp [verB, cntB, h1]
    have hd : decide (1 ≤ c) = false := by simpa using h1
    rw [e]
    clear e
    go_enter Try.func82, Try.ntmps82
    go_wp2_with fail
    go_ret
    exact ⟨rfl, (Below.refl _ w).onA _⟩

theorem and3 (n : Int) : bits .and .i64 n 3 = n % 4 := by
  have h1 : (BitVec.ofInt 64 3).toNat = 2 ^ 2 - 1 := by decide
  have key : (BitVec.ofInt 64 n &&& BitVec.ofInt 64 3).toNat = (n % ((2 ^ 64 : Nat) : Int)).toNat % 2 ^ 2 := by
    rw [BitVec.toNat_and, BitVec.toNat_ofInt, h1, Nat.and_two_pow_sub_one_eq_mod]
  show IntKind.i64.wrap ((BitVec.ofInt 64 n &&& BitVec.ofInt 64 3).toNat : Nat) = n % 4
  rw [key, IntKind.wrap_i64]
  omega

theorem rMay_any (c u : Int) (w : World) :
    Calls Try.prog 78 #[.agg #[.int .i64 c, .int .i64 u]] w fun e w' => e = .returned (.bool (verB c u)) ∧ Below w.heap.size w w' := by
  by_cases h1 : 1 ≤ c
  · by_cases h2 : c ≤ 65535
    · have e : verB c u = plB u := by simp [verB, cntB, h1, h2]
      rw [e]
      clear e
      go_enter Try.func78, Try.ntmps78
      go_wp2_with (first | (go_at_call 24; refine (rPlaceMay_any _ _).mono ?_; rintro e w' ⟨rfl, hw'⟩; subst w'))
      go_ret
      exact ⟨rfl, (Below.refl _ w).onA _⟩
    · have e : verB c u = false := by simp [verB, cntB, h2]
      have hd : decide (c ≤ 65535) = false := by simpa using h2
      rw [e]
      clear e
      go_enter Try.func78, Try.ntmps78
      go_wp2_with fail
      go_ret
      exact ⟨rfl, (Below.refl _ w).onA _⟩
  · have e : verB c u = false := by simp [verB, cntB, h1]
    have hd : decide (1 ≤ c) = false := by simpa using h1
    rw [e]
    clear e
    go_enter Try.func78, Try.ntmps78
    go_wp2_with fail
    go_ret
    exact ⟨rfl, (Below.refl _ w).onA _⟩


end Go.Proofs.Ytgcdbkhicpfklaa

namespace Go.Proofs.Ytgcdbkhicpfklaa
open Go.ChangeShapes Go.WideShapes Go.ChangeAt Go.RowKit

/-! ### Plain items -/
def byB (x : Int) : Bool := decide (0 ≤ x ∧ x ≤ 255)
def itB (i : It) : Bool := byB i.k && (byB i.x && (verB i.c i.u && (!i.g || decide (i.x = 0))))
/-- of one version -/
def oneB (a b : It) : Bool := if a.g = b.g then decide (b.x < a.x) else a.g
/-- is the first better than the second? -/
def betB (a b : It) : Bool := if a.c = b.c ∧ a.u = b.u then oneB a b else newB a.c a.u b.c b.u
/-! ### The functions -/
theorem iIsByte_any (a : Int) (w : World) :
    Calls Try.prog 81 #[.int .i64 a] w fun e w' => e = .returned (.bool (byB a)) ∧ w' = w := by
  by_cases h1 : 0 ≤ a
  · have e : byB a = decide (a ≤ 255) := by simp [byB, h1]
    rw [e]
    clear e
    go_enter Try.func81, Try.ntmps81
    go_wp2
    go_ret
    exact ⟨rfl, rfl⟩
  · have e : byB a = false := by simp [byB, h1]
    have hd : decide (0 ≤ a) = false := by simpa using h1
    rw [e]
    clear e
    go_enter Try.func81, Try.ntmps81
    go_wp2
    go_ret
    exact ⟨rfl, rfl⟩

set_option maxHeartbeats 1000000 in
theorem iMay_any (k c u x : Int) (g : Bool) (w : World) :
    Calls Try.prog 73 #[.agg #[.int .i64 k, .int .i64 c, .int .i64 u, .int .i64 x, .bool g]] w fun e w' => e = .returned (.bool (itB ⟨k, c, u, x, g⟩)) ∧ Below w.heap.size w w' := by
  by_cases hg : g = true ∧ ¬ x = 0
  · obtain ⟨rfl, hx⟩ := hg
    have e : itB ⟨k, c, u, x, true⟩ = false := by simp [itB, hx]
    rw [e]
    clear e
    go_enter Try.func73, Try.ntmps73
    go_wp2_with fail
    go_ret
    exact ⟨rfl, (Below.refl _ w).onA _⟩
  · have e : itB ⟨k, c, u, x, g⟩ = (byB k && (byB x && verB c u)) := by
      cases g <;> simp_all [itB]
    rw [e]
    clear e
    have hg' : g = false ∨ (g = true ∧ x = 0) := by cases g <;> simp_all
    clear hg
    rcases hg' with rfl | ⟨rfl, rfl⟩
    all_goals
      rcases Bool.eq_false_or_eq_true (byB k) with hk | hk
      · rcases Bool.eq_false_or_eq_true (byB _) with hx | hx
        all_goals
          rw [hk, hx]
          have t1 := trivial
          go_enter Try.func73, Try.ntmps73
          go_wp2_with (first
            | (go_at_call 81; clear t1; refine (iIsByte_any _ _).mono ?_; rintro e w' ⟨rfl, hw'⟩; subst w')
            | (go_at_call 81; refine (iIsByte_any _ _).mono ?_; rintro e w' ⟨rfl, hw'⟩; subst w')
            | (go_at_call 82; refine (may_any _ _ _).mono ?_; rintro e w2 ⟨rfl, hb2⟩))
          go_ret
          first
            | exact ⟨by simp, ((Below.refl _ w).onA _).on hb2⟩
            | exact ⟨rfl, (Below.refl _ w).onA _⟩
      · rw [hk]
        go_enter Try.func73, Try.ntmps73
        go_wp2_with (first
            | (go_at_call 81; refine (iIsByte_any _ _).mono ?_; rintro e w' ⟨rfl, hw'⟩; subst w'))
        go_ret
        exact ⟨rfl, (Below.refl _ w).onA _⟩

end Go.Proofs.Ytgcdbkhicpfklaa

namespace Go.Proofs.Ytgcdbkhicpfklaa
open Go.ChangeShapes Go.WideShapes Go.ChangeAt Go.RowKit

theorem rByte_any (a : Int) (w : World) :
    Calls Try.prog 77 #[.int .i64 a] w fun e w' => e = .returned (.bool (byB a)) ∧ w' = w := by
  by_cases h1 : 0 ≤ a
  · have e : byB a = decide (a ≤ 255) := by simp [byB, h1]
    rw [e]
    clear e
    go_enter Try.func77, Try.ntmps77
    go_wp2
    go_ret
    exact ⟨rfl, rfl⟩
  · have e : byB a = false := by simp [byB, h1]
    have hd : decide (0 ≤ a) = false := by simpa using h1
    rw [e]
    clear e
    go_enter Try.func77, Try.ntmps77
    go_wp2
    go_ret
    exact ⟨rfl, rfl⟩

set_option maxHeartbeats 1000000 in
theorem rIMay_any (k c u x : Int) (g : Bool) (w : World) :
    Calls Try.prog 57 #[.agg #[.int .i64 k, .int .i64 c, .int .i64 u, .int .i64 x, .bool g]] w fun e w' => e = .returned (.bool (itB ⟨k, c, u, x, g⟩)) ∧ Below w.heap.size w w' := by
  have t1 := trivial
  simp only [itB]
  rcases Bool.eq_false_or_eq_true (byB k) with hk | hk
  · rcases Bool.eq_false_or_eq_true (byB x) with hx | hx
    · rcases Bool.eq_false_or_eq_true (verB c u) with hv | hv
      · cases g
        all_goals
          rw [hk, hx, hv]
          go_enter Try.func57, Try.ntmps57
          go_wp2_with (first
            | (go_at_call 77; clear t1; refine (rByte_any _ _).mono ?_; rintro e w' ⟨rfl, hw'⟩; subst w')
            | (go_at_call 77; refine (rByte_any _ _).mono ?_; rintro e w' ⟨rfl, hw'⟩; subst w')
            | (go_at_call 78; refine (rMay_any _ _ _).mono ?_; rintro e w2 ⟨rfl, hb2⟩; obtain ⟨hc2, hf2⟩ := bcell hb2))
          go_ret
          exact ⟨by first | rfl | simp, ((Below.refl _ w).onA _).on hb2⟩
      · rw [hk, hx, hv]
        go_enter Try.func57, Try.ntmps57
        go_wp2_with (first
          | (go_at_call 77; clear t1; refine (rByte_any _ _).mono ?_; rintro e w' ⟨rfl, hw'⟩; subst w')
          | (go_at_call 77; refine (rByte_any _ _).mono ?_; rintro e w' ⟨rfl, hw'⟩; subst w')
          | (go_at_call 78; refine (rMay_any _ _ _).mono ?_; rintro e w2 ⟨rfl, hb2⟩))
        go_ret
        exact ⟨rfl, ((Below.refl _ w).onA _).on hb2⟩
    · rw [hk, hx]
      go_enter Try.func57, Try.ntmps57
      go_wp2_with (first
        | (go_at_call 77; clear t1; refine (rByte_any _ _).mono ?_; rintro e w' ⟨rfl, hw'⟩; subst w')
        | (go_at_call 77; refine (rByte_any _ _).mono ?_; rintro e w' ⟨rfl, hw'⟩; subst w'))
      go_ret
      exact ⟨rfl, (Below.refl _ w).onA _⟩
  · rw [hk]
    go_enter Try.func57, Try.ntmps57
    go_wp2_with (first
      | (go_at_call 77; refine (rByte_any _ _).mono ?_; rintro e w' ⟨rfl, hw'⟩; subst w'))
    go_ret
    exact ⟨rfl, (Below.refl _ w).onA _⟩


end Go.Proofs.Ytgcdbkhicpfklaa

namespace Go.Proofs.Ytgcdbkhicpfklaa

def mx (a b : It) : It := if betB b a = true then b else a

end Go.Proofs.Ytgcdbkhicpfklaa

namespace Go.Proofs.Ytgcdbkhicpfklaa

abbrev Srt (xs : List It) : Prop := xs.Pairwise (fun a b => a.k < b.k)
abbrev Val (xs : List It) : Prop := ∀ x ∈ xs, itB x = true
def stB (xs : List It) : Bool := decide (Val xs ∧ Srt xs ∧ xs.length ≤ 16)

def ins : List It → It → List It
  | [], x => [x]
  | a :: r, x => if x.k < a.k then x :: a :: r else if a.k = x.k then mx a x :: r else a :: ins r x
/-! ### Looking up -/
/-! ### Putting -/
/-! ### Many puts -/
theorem stB_iff {xs : List It} : stB xs = true ↔ Val xs ∧ Srt xs ∧ xs.length ≤ 16 := by simp [stB]
/-! ### Putting, from the left -/
theorem ins_app : ∀ {l m : List It} {x : It}, (∀ a ∈ l, a.k < x.k) → ins (l ++ m) x = l ++ ins m x
  | [], _, _, _ => rfl
  | a :: l, m, x, h => by
    have ha := h a List.mem_cons_self
    show (if x.k < a.k then _ else if a.k = x.k then _ else a :: ins (l ++ m) x) = _
    rw [if_neg (by omega), if_neg (by omega), ins_app (fun b hb => h b (List.mem_cons_of_mem _ hb))]
    rfl
theorem ins_app_in : ∀ {l m : List It} {x : It}, (∃ b ∈ l, x.k ≤ b.k) → ins (l ++ m) x = ins l x ++ m
  | [], _, _, h => by obtain ⟨b, hb, _⟩ := h; cases hb
  | a :: l, m, x, h => by
    show (if x.k < a.k then _ else if a.k = x.k then _ else a :: ins (l ++ m) x) = (if x.k < a.k then _ else if a.k = x.k then _ else a :: ins l x) ++ m
    by_cases h1 : x.k < a.k
    · rw [if_pos h1, if_pos h1]; rfl
    · rw [if_neg h1, if_neg h1]
      by_cases h2 : a.k = x.k
      · rw [if_pos h2, if_pos h2]; rfl
      · rw [if_neg h2, if_neg h2]
        obtain ⟨b, hb, hk⟩ := h
        rw [ins_app_in ⟨b, (List.mem_cons.1 hb).resolve_left (by rintro rfl; omega), hk⟩]
        rfl
/-- What stands in the new row once the first k were looked at. -/
def PutRel (xs : List It) (x : It) (k : Nat) (out : List It) (inb : Bool) : Prop :=
  (inb = false ∧ out = xs.take k ∧ ∀ a ∈ xs.take k, a.k < x.k) ∨ (inb = true ∧ out = ins (xs.take k) x ∧ ∃ b ∈ xs.take k, x.k ≤ b.k)
theorem take_next {xs : List It} {k : Nat} (hk : k < xs.length) : xs.take (k + 1) = xs.take k ++ [xs[k]] := List.take_succ_eq_append_getElem hk
theorem PutRel.zero (xs : List It) (x : It) : PutRel xs x 0 [] false := .inl ⟨rfl, by simp, by simp⟩
theorem PutRel.eq {xs : List It} {x : It} {k : Nat} {out : List It} (h : PutRel xs x k out false) (hk : k < xs.length) (hg : xs[k].k = x.k) : PutRel xs x (k + 1) (out ++ [mx xs[k] x]) true := by
  rcases h with ⟨_, rfl, h⟩ | ⟨h, _⟩
  · refine .inr ⟨rfl, ?_, xs[k], ?_, by omega⟩
    · rw [take_next hk, ins_app h]
      show _ = _ ++ (if x.k < xs[k].k then _ else if xs[k].k = x.k then [mx xs[k] x] else _)
      rw [if_neg (by omega), if_pos hg]
    · rw [take_next hk]; exact List.mem_append_right _ (List.mem_singleton.2 rfl)
  · cases h
theorem PutRel.lt {xs : List It} {x : It} {k : Nat} {out : List It} (h : PutRel xs x k out false) (hk : k < xs.length) (hg : xs[k].k < x.k) : PutRel xs x (k + 1) (out ++ [xs[k]]) false := by
  rcases h with ⟨_, rfl, h⟩ | ⟨h, _⟩
  · refine .inl ⟨rfl, (take_next hk).symm, fun a ha => ?_⟩
    rw [take_next hk] at ha
    rcases List.mem_append.1 ha with ha | ha
    · exact h a ha
    · rw [List.mem_singleton.1 ha]; exact hg
  · cases h
theorem PutRel.in {xs : List It} {x : It} {k : Nat} {out : List It} (h : PutRel xs x k out true) (hs : Srt xs) (hk : k < xs.length) : PutRel xs x (k + 1) (out ++ [xs[k]]) true ∧ x.k < xs[k].k := by
  rcases h with ⟨h, _⟩ | ⟨_, rfl, b, hb, hbk⟩
  · cases h
  · have hlt : b.k < xs[k].k := by
      obtain ⟨j, hj, rfl⟩ := List.mem_iff_getElem.1 hb
      rw [List.getElem_take]
      have hjk : j < k := by simp at hj; omega
      exact List.pairwise_iff_getElem.1 hs _ _ _ _ hjk
    refine ⟨.inr ⟨rfl, ?_, b, ?_, hbk⟩, by omega⟩
    · rw [take_next hk, ins_app_in ⟨b, hb, hbk⟩]
    · rw [take_next hk]; exact List.mem_append_left _ hb
theorem PutRel.end {xs : List It} {x : It} {out : List It} {inb : Bool} (h : PutRel xs x xs.length out inb) : ins xs x = if inb = true then out else out ++ [x] := by
  rcases h with ⟨rfl, rfl, h⟩ | ⟨rfl, rfl, _⟩
  · rw [List.take_length] at h ⊢
    have := ins_app (m := []) h
    simpa [ins] using this
  · simp

end Go.Proofs.Ytgcdbkhicpfklaa
