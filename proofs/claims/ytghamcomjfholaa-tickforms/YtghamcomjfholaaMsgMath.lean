
/-
  Contracts of package item's functions and of the document's own answers (may it be; the best of two), at every two items: what they return, and that no old memory has turned.
-/
import Derived.Test.YtghamcomjfholaaVer
import Derived.Test.YtghamcomjfholaaRingRef
namespace Go.Proofs.Ytghamcomjfholaa
open Go.ChangeShapes Go.WideShapes Go.ChangeAt Go.RowKit

/-! ### Plain items -/
def byB (x : Int) : Bool := decide (0 ≤ x ∧ x ≤ 255)
def itB (i : It) : Bool := byB i.k && (byB i.x && (verB i.c i.u && (!i.g || decide (i.x = 0))))
/-- of one version -/
def oneB (a b : It) : Bool := if a.g = b.g then decide (b.x < a.x) else a.g
/-- is the first better than the second? -/
def betB (a b : It) : Bool := if a.c = b.c ∧ a.u = b.u then oneB a b else newB a.c a.u b.c b.u
/-! ### The functions -/
theorem iIsByte_any (a : Int) (w : World) :
    Calls Try.prog 81 #[.int .i64 a] w fun e w' => e = .returned (.bool (byB a)) ∧ w' = w := by
  by_cases h1 : 0 ≤ a
  · have e : byB a = decide (a ≤ 255) := by simp [byB, h1]
    rw [e]
    clear e
    go_enter Try.func81, Try.ntmps81
    go_wp2
    go_ret
    exact ⟨rfl, rfl⟩
  · have e : byB a = false := by simp [byB, h1]
    have hd : decide (0 ≤ a) = false := by simpa using h1
    rw [e]
    clear e
    go_enter Try.func81, Try.ntmps81
    go_wp2
    go_ret
    exact ⟨rfl, rfl⟩

set_option maxHeartbeats 1000000 in
theorem iMay_any (k c u x : Int) (g : Bool) (w : World) :
    Calls Try.prog 74 #[.agg #[.int .i64 k, .int .i64 c, .int .i64 u, .int .i64 x, .bool g]] w fun e w' => e = .returned (.bool (itB ⟨k, c, u, x, g⟩)) ∧ Below w.heap.size w w' := by
  by_cases hg : g = true ∧ ¬ x = 0
  · obtain ⟨rfl, hx⟩ := hg
    have e : itB ⟨k, c, u, x, true⟩ = false := by simp [itB, hx]
    rw [e]
    clear e
    go_enter Try.func74, Try.ntmps74
    go_wp2_with fail
    go_ret
    exact ⟨rfl, (Below.refl _ w).onA _⟩
  · have e : itB ⟨k, c, u, x, g⟩ = (byB k && (byB x && verB c u)) := by
      cases g <;> simp_all [itB]
    rw [e]
    clear e
    have hg' : g = false ∨ (g = true ∧ x = 0) := by cases g <;> simp_all
    clear hg
    rcases hg' with rfl | ⟨rfl, rfl⟩
    all_goals
      rcases Bool.eq_false_or_eq_true (byB k) with hk | hk
      · rcases Bool.eq_false_or_eq_true (byB _) with hx | hx
        all_goals
          rw [hk, hx]
          have t1 := trivial
          go_enter Try.func74, Try.ntmps74
          go_wp2_with (first
            | (go_at_call 81; clear t1; refine (iIsByte_any _ _).mono ?_; rintro e w' ⟨rfl, hw'⟩; subst w')
            | (go_at_call 81; refine (iIsByte_any _ _).mono ?_; rintro e w' ⟨rfl, hw'⟩; subst w')
            | (go_at_call 82; refine (may_any _ _ _).mono ?_; rintro e w2 ⟨rfl, hb2⟩))
          go_ret
          first
            | exact ⟨by simp, ((Below.refl _ w).onA _).on hb2⟩
            | exact ⟨rfl, (Below.refl _ w).onA _⟩
      · rw [hk]
        go_enter Try.func74, Try.ntmps74
        go_wp2_with (first
            | (go_at_call 81; refine (iIsByte_any _ _).mono ?_; rintro e w' ⟨rfl, hw'⟩; subst w'))
        go_ret
        exact ⟨rfl, (Below.refl _ w).onA _⟩

end Go.Proofs.Ytghamcomjfholaa

namespace Go.Proofs.Ytghamcomjfholaa
open Go.ChangeShapes Go.WideShapes Go.ChangeAt Go.RowKit

theorem rByte_any (a : Int) (w : World) :
    Calls Try.prog 44 #[.int .i64 a] w fun e w' => e = .returned (.bool (byB a)) ∧ w' = w := by
  by_cases h1 : 0 ≤ a
  · have e : byB a = decide (a ≤ 255) := by simp [byB, h1]
    rw [e]
    clear e
    go_enter Try.func44, Try.ntmps44
    go_wp2
    go_ret
    exact ⟨rfl, rfl⟩
  · have e : byB a = false := by simp [byB, h1]
    have hd : decide (0 ≤ a) = false := by simpa using h1
    rw [e]
    clear e
    go_enter Try.func44, Try.ntmps44
    go_wp2
    go_ret
    exact ⟨rfl, rfl⟩

set_option maxHeartbeats 1000000 in
theorem rIMay_any (k c u x : Int) (g : Bool) (w : World) :
    Calls Try.prog 27 #[.agg #[.int .i64 k, .int .i64 c, .int .i64 u, .int .i64 x, .bool g]] w fun e w' => e = .returned (.bool (itB ⟨k, c, u, x, g⟩)) ∧ Below w.heap.size w w' := by
  have t1 := trivial
  simp only [itB]
  rcases Bool.eq_false_or_eq_true (byB k) with hk | hk
  · rcases Bool.eq_false_or_eq_true (byB x) with hx | hx
    · rcases Bool.eq_false_or_eq_true (verB c u) with hv | hv
      · cases g
        all_goals
          rw [hk, hx, hv]
          go_enter Try.func27, Try.ntmps27
          go_wp2_with (first
            | (go_at_call 44; clear t1; refine (rByte_any _ _).mono ?_; rintro e w' ⟨rfl, hw'⟩; subst w')
            | (go_at_call 44; refine (rByte_any _ _).mono ?_; rintro e w' ⟨rfl, hw'⟩; subst w')
            | (go_at_call 45; refine (rMay_any _ _ _).mono ?_; rintro e w2 ⟨rfl, hb2⟩; obtain ⟨hc2, hf2⟩ := bcell hb2))
          go_ret
          exact ⟨by first | rfl | simp, ((Below.refl _ w).onA _).on hb2⟩
      · rw [hk, hx, hv]
        go_enter Try.func27, Try.ntmps27
        go_wp2_with (first
          | (go_at_call 44; clear t1; refine (rByte_any _ _).mono ?_; rintro e w' ⟨rfl, hw'⟩; subst w')
          | (go_at_call 44; refine (rByte_any _ _).mono ?_; rintro e w' ⟨rfl, hw'⟩; subst w')
          | (go_at_call 45; refine (rMay_any _ _ _).mono ?_; rintro e w2 ⟨rfl, hb2⟩))
        go_ret
        exact ⟨rfl, ((Below.refl _ w).onA _).on hb2⟩
    · rw [hk, hx]
      go_enter Try.func27, Try.ntmps27
      go_wp2_with (first
        | (go_at_call 44; clear t1; refine (rByte_any _ _).mono ?_; rintro e w' ⟨rfl, hw'⟩; subst w')
        | (go_at_call 44; refine (rByte_any _ _).mono ?_; rintro e w' ⟨rfl, hw'⟩; subst w'))
      go_ret
      exact ⟨rfl, (Below.refl _ w).onA _⟩
  · rw [hk]
    go_enter Try.func27, Try.ntmps27
    go_wp2_with (first
      | (go_at_call 44; refine (rByte_any _ _).mono ?_; rintro e w' ⟨rfl, hw'⟩; subst w'))
    go_ret
    exact ⟨rfl, (Below.refl _ w).onA _⟩


end Go.Proofs.Ytghamcomjfholaa

namespace Go.Proofs.Ytghamcomjfholaa

def mx (a b : It) : It := if betB b a = true then b else a

end Go.Proofs.Ytghamcomjfholaa

namespace Go.Proofs.Ytghamcomjfholaa

abbrev Srt (xs : List It) : Prop := xs.Pairwise (fun a b => a.k < b.k)
abbrev Val (xs : List It) : Prop := ∀ x ∈ xs, itB x = true
def stB (xs : List It) : Bool := decide (Val xs ∧ Srt xs ∧ xs.length ≤ 16)

def ins : List It → It → List It
  | [], x => [x]
  | a :: r, x => if x.k < a.k then x :: a :: r else if a.k = x.k then mx a x :: r else a :: ins r x
/-! ### Looking up -/
/-! ### Putting -/
/-! ### Many puts -/
theorem stB_iff {xs : List It} : stB xs = true ↔ Val xs ∧ Srt xs ∧ xs.length ≤ 16 := by simp [stB]
/-! ### Putting, from the left -/
theorem ins_app : ∀ {l m : List It} {x : It}, (∀ a ∈ l, a.k < x.k) → ins (l ++ m) x = l ++ ins m x
  | [], _, _, _ => rfl
  | a :: l, m, x, h => by
    have ha := h a List.mem_cons_self
    show (if x.k < a.k then _ else if a.k = x.k then _ else a :: ins (l ++ m) x) = _
    rw [if_neg (by omega), if_neg (by omega), ins_app (fun b hb => h b (List.mem_cons_of_mem _ hb))]
    rfl
theorem ins_app_in : ∀ {l m : List It} {x : It}, (∃ b ∈ l, x.k ≤ b.k) → ins (l ++ m) x = ins l x ++ m
  | [], _, _, h => by obtain ⟨b, hb, _⟩ := h; cases hb
  | a :: l, m, x, h => by
    show (if x.k < a.k then _ else if a.k = x.k then _ else a :: ins (l ++ m) x) = (if x.k < a.k then _ else if a.k = x.k then _ else a :: ins l x) ++ m
    by_cases h1 : x.k < a.k
    · rw [if_pos h1, if_pos h1]; rfl
    · rw [if_neg h1, if_neg h1]
      by_cases h2 : a.k = x.k
      · rw [if_pos h2, if_pos h2]; rfl
      · rw [if_neg h2, if_neg h2]
        obtain ⟨b, hb, hk⟩ := h
        rw [ins_app_in ⟨b, (List.mem_cons.1 hb).resolve_left (by rintro rfl; omega), hk⟩]
        rfl
/-- What stands in the new row once the first k were looked at. -/
def PutRel (xs : List It) (x : It) (k : Nat) (out : List It) (inb : Bool) : Prop :=
  (inb = false ∧ out = xs.take k ∧ ∀ a ∈ xs.take k, a.k < x.k) ∨ (inb = true ∧ out = ins (xs.take k) x ∧ ∃ b ∈ xs.take k, x.k ≤ b.k)
theorem take_next {xs : List It} {k : Nat} (hk : k < xs.length) : xs.take (k + 1) = xs.take k ++ [xs[k]] := List.take_succ_eq_append_getElem hk
theorem PutRel.zero (xs : List It) (x : It) : PutRel xs x 0 [] false := .inl ⟨rfl, by simp, by simp⟩
theorem PutRel.eq {xs : List It} {x : It} {k : Nat} {out : List It} (h : PutRel xs x k out false) (hk : k < xs.length) (hg : xs[k].k = x.k) : PutRel xs x (k + 1) (out ++ [mx xs[k] x]) true := by
  rcases h with ⟨_, rfl, h⟩ | ⟨h, _⟩
  · refine .inr ⟨rfl, ?_, xs[k], ?_, by omega⟩
    · rw [take_next hk, ins_app h]
      show _ = _ ++ (if x.k < xs[k].k then _ else if xs[k].k = x.k then [mx xs[k] x] else _)
      rw [if_neg (by omega), if_pos hg]
    · rw [take_next hk]; exact List.mem_append_right _ (List.mem_singleton.2 rfl)
  · cases h
theorem PutRel.lt {xs : List It} {x : It} {k : Nat} {out : List It} (h : PutRel xs x k out false) (hk : k < xs.length) (hg : xs[k].k < x.k) : PutRel xs x (k + 1) (out ++ [xs[k]]) false := by
  rcases h with ⟨_, rfl, h⟩ | ⟨h, _⟩
  · refine .inl ⟨rfl, (take_next hk).symm, fun a ha => ?_⟩
    rw [take_next hk] at ha
    rcases List.mem_append.1 ha with ha | ha
    · exact h a ha
    · rw [List.mem_singleton.1 ha]; exact hg
  · cases h
theorem PutRel.in {xs : List It} {x : It} {k : Nat} {out : List It} (h : PutRel xs x k out true) (hs : Srt xs) (hk : k < xs.length) : PutRel xs x (k + 1) (out ++ [xs[k]]) true ∧ x.k < xs[k].k := by
  rcases h with ⟨h, _⟩ | ⟨_, rfl, b, hb, hbk⟩
  · cases h
  · have hlt : b.k < xs[k].k := by
      obtain ⟨j, hj, rfl⟩ := List.mem_iff_getElem.1 hb
      rw [List.getElem_take]
      have hjk : j < k := by simp at hj; omega
      exact List.pairwise_iff_getElem.1 hs _ _ _ _ hjk
    refine ⟨.inr ⟨rfl, ?_, b, ?_, hbk⟩, by omega⟩
    · rw [take_next hk, ins_app_in ⟨b, hb, hbk⟩]
    · rw [take_next hk]; exact List.mem_append_left _ hb
theorem PutRel.end {xs : List It} {x : It} {out : List It} {inb : Bool} (h : PutRel xs x xs.length out inb) : ins xs x = if inb = true then out else out ++ [x] := by
  rcases h with ⟨rfl, rfl, h⟩ | ⟨rfl, rfl, _⟩
  · rw [List.take_length] at h ⊢
    have := ins_app (m := []) h
    simpa [ins] using this
  · simp

end Go.Proofs.Ytghamcomjfholaa

namespace Go.Proofs.Ytghamcomjfholaa
open Go.RowKit

def zeB (t : It) : Bool := decide (t = ⟨0, 0, 0, 0, false⟩)
/-- May these be named? -/
def nmdB (is : List Int) : Bool := decide (is.length ≤ 16) && plsB is
def grtB (is : List Int) (k : Int) (t : It) (h : Bool) : Bool := nmdB is && (decide (k = 0) && (zeB t && !h))
def brgB (m : Nat) (k : Int) (t : It) (h : Bool) : Bool := decide (m = 0) && (decide (k = 0) && (itB t && !h))
def askB (m : Nat) (k : Int) (t : It) (h : Bool) : Bool := decide (m = 0) && (plB k && (zeB t && !h))
def telB (m : Nat) (k : Int) (t : It) (h : Bool) : Bool := decide (m = 0) && (plB k && (if h = true then itB t && decide (t.k = k) else zeB t))
def knB (n : Int) (is : List Int) (k : Int) (t : It) (h : Bool) : Bool :=
  if n = 0 then grtB is k t h else if n = 1 then brgB is.length k t h else if n = 2 then askB is.length k t h else if n = 3 then telB is.length k t h else false
def endB (a b : Int) : Bool := plB a && (plB b && decide (a ≠ b))
def mgB (n a b : Int) (is : List Int) (k : Int) (t : It) (h : Bool) : Bool := endB a b && knB n is k t h

theorem ne_first {t : It} (h : ¬ t = ⟨0, 0, 0, 0, false⟩) : ¬ t.k = 0 ∨ (t.k = 0 ∧ ¬ t.c = 0) ∨ (t.k = 0 ∧ t.c = 0 ∧ ¬ t.u = 0) ∨ (t.k = 0 ∧ t.c = 0 ∧ t.u = 0 ∧ ¬ t.x = 0) ∨ (t.k = 0 ∧ t.c = 0 ∧ t.u = 0 ∧ t.x = 0 ∧ t.g = true) := by
  obtain ⟨k, c, u, x, g⟩ := t
  by_cases h1 : k = 0 <;> by_cases h2 : c = 0 <;> by_cases h3 : u = 0 <;> by_cases h4 : x = 0 <;> cases g <;> simp_all

/-- A message, all of it. -/
structure Mg where
  n : Int
  a : Int
  b : Int
  is : List Int
  k : Int
  t : It
  h : Bool
deriving DecidableEq, Inhabited

def mayB (m : Mg) : Bool := mgB m.n m.a m.b m.is m.k m.t m.h
/-! ### What a message that may be has -/
/-- A message as it came in: its numbers, and where its list lies. -/
structure MgO where
  n : Int
  a : Int
  b : Int
  is : List Int
  k : Int
  t : It
  h : Bool
  v : Value

end Go.Proofs.Ytghamcomjfholaa
