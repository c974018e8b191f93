
/-
  Contracts of package version's functions and of the document's own answers (may it be; is it newer), at every two numbers each: what they return, and that no old memory has turned.
-/
import Derived.Test.YtghamcomjfholaaGreatRingRef
import Derived.Test.YtghamcomjfholaaGreatOnly
import Derived.Test.YtghamcomjfholaaGreatOld
namespace Go.Proofs.YtghamcomjfholaaGreat
open Go.ChangeShapes Go.WideShapes Go.ChangeAt Go.RowKit

/-! ### Plain numbers -/
def cntB (c : Int) : Bool := decide (1 ≤ c ∧ c ≤ 65535)
def verB (c u : Int) : Bool := cntB c && plB u
def gtB (c u d v : Int) : Bool := decide (d < c) || (decide (c = d) && decide (v < u))
def newB (c u d v : Int) : Bool := (verB c u && verB d v) && gtB c u d v
/-! ### The functions -/
theorem vIsPlace_any (a : Int) (w : World) :
    Calls Tryz.prog 107 #[.int .i64 a] w fun e w' => e = .returned (.bool (plB a)) ∧ w' = w := by
  by_cases h : plB a = true
  · rw [h]
    go_enter Tryz.func107, Tryz.ntmps107
    go_wp2_with (first | (go_at_call 95; refine (distance_yes _ _ _ h h).mono ?_; rintro e w' ⟨rfl, rfl⟩))
    go_ret
    exact ⟨rfl, rfl⟩
  · have h : plB a = false := by simpa using h
    rw [h]
    go_enter Tryz.func107, Tryz.ntmps107
    go_wp2_with (first | (go_at_call 95; refine (distance_no _ _ _ (Or.inl h)).mono ?_; rintro e w' ⟨rfl, rfl⟩))
    go_ret
    exact ⟨rfl, rfl⟩

theorem may_any (c u : Int) (w : World) :
    Calls Tryz.prog 97 #[.agg #[.int .i64 c, .int .i64 u]] w fun e w' => e = .returned (.bool (verB c u)) ∧ Below w.heap.size w w' := by
  by_cases h1 : 1 ≤ c
  · by_cases h2 : c ≤ 65535
    · have e : verB c u = plB u := by simp [verB, cntB, h1, h2]
      rw [e]
      clear e
      go_enter Tryz.func97, Tryz.ntmps97
      go_wp2_with (first | (go_at_call 107; refine (vIsPlace_any _ _).mono ?_; rintro e w' ⟨rfl, hw'⟩; subst w'))
      go_ret
      exact ⟨rfl, (Below.refl _ w).onA _⟩
    · have e : verB c u = false := by simp [verB, cntB, h2]
      have hd : decide (c ≤ 65535) = false := by simpa using h2
      rw [e]
      clear e
      go_enter Tryz.func97, Tryz.ntmps97
      go_wp2_with fail
      go_ret
      exact ⟨rfl, (Below.refl _ w).onA _⟩
  · have e : verB c u = false := by simp [verB, cntB, h1]
    have hd : decide (1 ≤ c) = false := by simpa using h1
    rw [e]
    clear e
    go_enter Tryz.func97, Tryz.ntmps97
    go_wp2_with fail
    go_ret
    exact ⟨rfl, (Below.refl _ w).onA _⟩

theorem rMay_any (c u : Int) (w : World) :
    Calls Tryz.prog 104 #[.agg #[.int .i64 c, .int .i64 u]] w fun e w' => e = .returned (.bool (verB c u)) ∧ Below w.heap.size w w' := by
  by_cases h1 : 1 ≤ c
  · by_cases h2 : c ≤ 65535
    · have e : verB c u = plB u := by simp [verB, cntB, h1, h2]
      rw [e]
      clear e
      go_enter Tryz.func104, Tryz.ntmps104
      go_wp2_with (first | (go_at_call 72; refine (rPlaceMay_any _ _).mono ?_; rintro e w' ⟨rfl, hw'⟩; subst w'))
      go_ret
      exact ⟨rfl, (Below.refl _ w).onA _⟩
    · have e : verB c u = false := by simp [verB, cntB, h2]
      have hd : decide (c ≤ 65535) = false := by simpa using h2
      rw [e]
      clear e
      go_enter Tryz.func104, Tryz.ntmps104
      go_wp2_with fail
      go_ret
      exact ⟨rfl, (Below.refl _ w).onA _⟩
  · have e : verB c u = false := by simp [verB, cntB, h1]
    have hd : decide (1 ≤ c) = false := by simpa using h1
    rw [e]
    clear e
    go_enter Tryz.func104, Tryz.ntmps104
    go_wp2_with fail
    go_ret
    exact ⟨rfl, (Below.refl _ w).onA _⟩


end Go.Proofs.YtghamcomjfholaaGreat

namespace Go.Proofs.YtghamcomjfholaaGreat
open Go.ChangeShapes Go.WideShapes Go.ChangeAt Go.RowKit

/-! ### Plain items -/
def byB (x : Int) : Bool := decide (0 ≤ x ∧ x ≤ 255)
def itB (i : It) : Bool := byB i.k && (byB i.x && (verB i.c i.u && (!i.g || decide (i.x = 0))))
/-- of one version -/
def oneB (a b : It) : Bool := if a.g = b.g then decide (b.x < a.x) else a.g
/-- is the first better than the second? -/
def betB (a b : It) : Bool := if a.c = b.c ∧ a.u = b.u then oneB a b else newB a.c a.u b.c b.u
/-! ### The functions -/
theorem iIsByte_any (a : Int) (w : World) :
    Calls Tryz.prog 96 #[.int .i64 a] w fun e w' => e = .returned (.bool (byB a)) ∧ w' = w := by
  by_cases h1 : 0 ≤ a
  · have e : byB a = decide (a ≤ 255) := by simp [byB, h1]
    rw [e]
    clear e
    go_enter Tryz.func96, Tryz.ntmps96
    go_wp2
    go_ret
    exact ⟨rfl, rfl⟩
  · have e : byB a = false := by simp [byB, h1]
    have hd : decide (0 ≤ a) = false := by simpa using h1
    rw [e]
    clear e
    go_enter Tryz.func96, Tryz.ntmps96
    go_wp2
    go_ret
    exact ⟨rfl, rfl⟩

set_option maxHeartbeats 1000000 in
theorem iMay_any (k c u x : Int) (g : Bool) (w : World) :
    Calls Tryz.prog 86 #[.agg #[.int .i64 k, .int .i64 c, .int .i64 u, .int .i64 x, .bool g]] w fun e w' => e = .returned (.bool (itB ⟨k, c, u, x, g⟩)) ∧ Below w.heap.size w w' := by
  by_cases hg : g = true ∧ ¬ x = 0
  · obtain ⟨rfl, hx⟩ := hg
    have e : itB ⟨k, c, u, x, true⟩ = false := by simp [itB, hx]
    rw [e]
    clear e
    go_enter Tryz.func86, Tryz.ntmps86
    go_wp2_with fail
    go_ret
    exact ⟨rfl, (Below.refl _ w).onA _⟩
  · have e : itB ⟨k, c, u, x, g⟩ = (byB k && (byB x && verB c u)) := by
      cases g <;> simp_all [itB]
    rw [e]
    clear e
    have hg' : g = false ∨ (g = true ∧ x = 0) := by cases g <;> simp_all
    clear hg
    rcases hg' with rfl | ⟨rfl, rfl⟩
    all_goals
      rcases Bool.eq_false_or_eq_true (byB k) with hk | hk
      · rcases Bool.eq_false_or_eq_true (byB _) with hx | hx
        all_goals
          rw [hk, hx]
          have t1 := trivial
          go_enter Tryz.func86, Tryz.ntmps86
          go_wp2_with (first
            | (go_at_call 96; clear t1; refine (iIsByte_any _ _).mono ?_; rintro e w' ⟨rfl, hw'⟩; subst w')
            | (go_at_call 96; refine (iIsByte_any _ _).mono ?_; rintro e w' ⟨rfl, hw'⟩; subst w')
            | (go_at_call 97; refine (may_any _ _ _).mono ?_; rintro e w2 ⟨rfl, hb2⟩))
          go_ret
          first
            | exact ⟨by simp, ((Below.refl _ w).onA _).on hb2⟩
            | exact ⟨rfl, (Below.refl _ w).onA _⟩
      · rw [hk]
        go_enter Tryz.func86, Tryz.ntmps86
        go_wp2_with (first
            | (go_at_call 96; refine (iIsByte_any _ _).mono ?_; rintro e w' ⟨rfl, hw'⟩; subst w'))
        go_ret
        exact ⟨rfl, (Below.refl _ w).onA _⟩

end Go.Proofs.YtghamcomjfholaaGreat

namespace Go.Proofs.YtghamcomjfholaaGreat
open Go.ChangeShapes Go.WideShapes Go.ChangeAt Go.RowKit

theorem rByte_any (a : Int) (w : World) :
    Calls Tryz.prog 103 #[.int .i64 a] w fun e w' => e = .returned (.bool (byB a)) ∧ w' = w := by
  by_cases h1 : 0 ≤ a
  · have e : byB a = decide (a ≤ 255) := by simp [byB, h1]
    rw [e]
    clear e
    go_enter Tryz.func103, Tryz.ntmps103
    go_wp2
    go_ret
    exact ⟨rfl, rfl⟩
  · have e : byB a = false := by simp [byB, h1]
    have hd : decide (0 ≤ a) = false := by simpa using h1
    rw [e]
    clear e
    go_enter Tryz.func103, Tryz.ntmps103
    go_wp2
    go_ret
    exact ⟨rfl, rfl⟩

set_option maxHeartbeats 1000000 in
theorem rIMay_any (k c u x : Int) (g : Bool) (w : World) :
    Calls Tryz.prog 92 #[.agg #[.int .i64 k, .int .i64 c, .int .i64 u, .int .i64 x, .bool g]] w fun e w' => e = .returned (.bool (itB ⟨k, c, u, x, g⟩)) ∧ Below w.heap.size w w' := by
  have t1 := trivial
  simp only [itB]
  rcases Bool.eq_false_or_eq_true (byB k) with hk | hk
  · rcases Bool.eq_false_or_eq_true (byB x) with hx | hx
    · rcases Bool.eq_false_or_eq_true (verB c u) with hv | hv
      · cases g
        all_goals
          rw [hk, hx, hv]
          go_enter Tryz.func92, Tryz.ntmps92
          go_wp2_with (first
            | (go_at_call 103; clear t1; refine (rByte_any _ _).mono ?_; rintro e w' ⟨rfl, hw'⟩; subst w')
            | (go_at_call 103; refine (rByte_any _ _).mono ?_; rintro e w' ⟨rfl, hw'⟩; subst w')
            | (go_at_call 104; refine (rMay_any _ _ _).mono ?_; rintro e w2 ⟨rfl, hb2⟩; obtain ⟨hc2, hf2⟩ := bcell hb2))
          go_ret
          exact ⟨by first | rfl | simp, ((Below.refl _ w).onA _).on hb2⟩
      · rw [hk, hx, hv]
        go_enter Tryz.func92, Tryz.ntmps92
        go_wp2_with (first
          | (go_at_call 103; clear t1; refine (rByte_any _ _).mono ?_; rintro e w' ⟨rfl, hw'⟩; subst w')
          | (go_at_call 103; refine (rByte_any _ _).mono ?_; rintro e w' ⟨rfl, hw'⟩; subst w')
          | (go_at_call 104; refine (rMay_any _ _ _).mono ?_; rintro e w2 ⟨rfl, hb2⟩))
        go_ret
        exact ⟨rfl, ((Below.refl _ w).onA _).on hb2⟩
    · rw [hk, hx]
      go_enter Tryz.func92, Tryz.ntmps92
      go_wp2_with (first
        | (go_at_call 103; clear t1; refine (rByte_any _ _).mono ?_; rintro e w' ⟨rfl, hw'⟩; subst w')
        | (go_at_call 103; refine (rByte_any _ _).mono ?_; rintro e w' ⟨rfl, hw'⟩; subst w'))
      go_ret
      exact ⟨rfl, (Below.refl _ w).onA _⟩
  · rw [hk]
    go_enter Tryz.func92, Tryz.ntmps92
    go_wp2_with (first
      | (go_at_call 103; refine (rByte_any _ _).mono ?_; rintro e w' ⟨rfl, hw'⟩; subst w'))
    go_ret
    exact ⟨rfl, (Below.refl _ w).onA _⟩


end Go.Proofs.YtghamcomjfholaaGreat

namespace Go.Proofs.YtghamcomjfholaaGreat

def mx (a b : It) : It := if betB b a = true then b else a

end Go.Proofs.YtghamcomjfholaaGreat

namespace Go.Proofs.YtghamcomjfholaaGreat

abbrev Srt (xs : List It) : Prop := xs.Pairwise (fun a b => a.k < b.k)
abbrev Val (xs : List It) : Prop := ∀ x ∈ xs, itB x = true
def stB (xs : List It) : Bool := decide (Val xs ∧ Srt xs ∧ xs.length ≤ 16)

def ins : List It → It → List It
  | [], x => [x]
  | a :: r, x => if x.k < a.k then x :: a :: r else if a.k = x.k then mx a x :: r else a :: ins r x
/-! ### Looking up -/
/-! ### Putting -/
/-! ### Many puts -/
theorem stB_iff {xs : List It} : stB xs = true ↔ Val xs ∧ Srt xs ∧ xs.length ≤ 16 := by simp [stB]
/-! ### Putting, from the left -/
theorem ins_app : ∀ {l m : List It} {x : It}, (∀ a ∈ l, a.k < x.k) → ins (l ++ m) x = l ++ ins m x
  | [], _, _, _ => rfl
  | a :: l, m, x, h => by
    have ha := h a List.mem_cons_self
    show (if x.k < a.k then _ else if a.k = x.k then _ else a :: ins (l ++ m) x) = _
    rw [if_neg (by omega), if_neg (by omega), ins_app (fun b hb => h b (List.mem_cons_of_mem _ hb))]
    rfl
theorem ins_app_in : ∀ {l m : List It} {x : It}, (∃ b ∈ l, x.k ≤ b.k) → ins (l ++ m) x = ins l x ++ m
  | [], _, _, h => by obtain ⟨b, hb, _⟩ := h; cases hb
  | a :: l, m, x, h => by
    show (if x.k < a.k then _ else if a.k = x.k then _ else a :: ins (l ++ m) x) = (if x.k < a.k then _ else if a.k = x.k then _ else a :: ins l x) ++ m
    by_cases h1 : x.k < a.k
    · rw [if_pos h1, if_pos h1]; rfl
    · rw [if_neg h1, if_neg h1]
      by_cases h2 : a.k = x.k
      · rw [if_pos h2, if_pos h2]; rfl
      · rw [if_neg h2, if_neg h2]
        obtain ⟨b, hb, hk⟩ := h
        rw [ins_app_in ⟨b, (List.mem_cons.1 hb).resolve_left (by rintro rfl; omega), hk⟩]
        rfl
/-- What stands in the new row once the first k were looked at. -/
def PutRel (xs : List It) (x : It) (k : Nat) (out : List It) (inb : Bool) : Prop :=
  (inb = false ∧ out = xs.take k ∧ ∀ a ∈ xs.take k, a.k < x.k) ∨ (inb = true ∧ out = ins (xs.take k) x ∧ ∃ b ∈ xs.take k, x.k ≤ b.k)
theorem take_next {xs : List It} {k : Nat} (hk : k < xs.length) : xs.take (k + 1) = xs.take k ++ [xs[k]] := List.take_succ_eq_append_getElem hk
theorem PutRel.zero (xs : List It) (x : It) : PutRel xs x 0 [] false := .inl ⟨rfl, by simp, by simp⟩
theorem PutRel.eq {xs : List It} {x : It} {k : Nat} {out : List It} (h : PutRel xs x k out false) (hk : k < xs.length) (hg : xs[k].k = x.k) : PutRel xs x (k + 1) (out ++ [mx xs[k] x]) true := by
  rcases h with ⟨_, rfl, h⟩ | ⟨h, _⟩
  · refine .inr ⟨rfl, ?_, xs[k], ?_, by omega⟩
    · rw [take_next hk, ins_app h]
      show _ = _ ++ (if x.k < xs[k].k then _ else if xs[k].k = x.k then [mx xs[k] x] else _)
      rw [if_neg (by omega), if_pos hg]
    · rw [take_next hk]; exact List.mem_append_right _ (List.mem_singleton.2 rfl)
  · cases h
theorem PutRel.lt {xs : List It} {x : It} {k : Nat} {out : List It} (h : PutRel xs x k out false) (hk : k < xs.length) (hg : xs[k].k < x.k) : PutRel xs x (k + 1) (out ++ [xs[k]]) false := by
  rcases h with ⟨_, rfl, h⟩ | ⟨h, _⟩
  · refine .inl ⟨rfl, (take_next hk).symm, fun a ha => ?_⟩
    rw [take_next hk] at ha
    rcases List.mem_append.1 ha with ha | ha
    · exact h a ha
    · rw [List.mem_singleton.1 ha]; exact hg
  · cases h
theorem PutRel.in {xs : List It} {x : It} {k : Nat} {out : List It} (h : PutRel xs x k out true) (hs : Srt xs) (hk : k < xs.length) : PutRel xs x (k + 1) (out ++ [xs[k]]) true ∧ x.k < xs[k].k := by
  rcases h with ⟨h, _⟩ | ⟨_, rfl, b, hb, hbk⟩
  · cases h
  · have hlt : b.k < xs[k].k := by
      obtain ⟨j, hj, rfl⟩ := List.mem_iff_getElem.1 hb
      rw [List.getElem_take]
      have hjk : j < k := by simp at hj; omega
      exact List.pairwise_iff_getElem.1 hs _ _ _ _ hjk
    refine ⟨.inr ⟨rfl, ?_, b, ?_, hbk⟩, by omega⟩
    · rw [take_next hk, ins_app_in ⟨b, hb, hbk⟩]
    · rw [take_next hk]; exact List.mem_append_left _ hb
theorem PutRel.end {xs : List It} {x : It} {out : List It} {inb : Bool} (h : PutRel xs x xs.length out inb) : ins xs x = if inb = true then out else out ++ [x] := by
  rcases h with ⟨rfl, rfl, h⟩ | ⟨rfl, rfl, _⟩
  · rw [List.take_length] at h ⊢
    have := ins_app (m := []) h
    simpa [ins] using this
  · simp

end Go.Proofs.YtghamcomjfholaaGreat

namespace Go.Proofs.YtghamcomjfholaaGreat
open Go.RowKit

/-- A message, all of it. -/
structure Mg where
  n : Int
  a : Int
  b : Int
  is : List Int
  k : Int
  t : It
  h : Bool
deriving DecidableEq, Inhabited

/-! ### What a message that may be has -/
/-- A message as it came in: its numbers, and where its list lies. -/
structure MgO where
  n : Int
  a : Int
  b : Int
  is : List Int
  k : Int
  t : It
  h : Bool
  v : Value

end Go.Proofs.YtghamcomjfholaaGreat

namespace Go.Proofs.YtghamcomjfholaaGreat
open Go.ChangeShapes Go.WideShapes Go.ChangeAt Go.RowKit

theorem Tryz.infoMsg : (Tryz.prog.info? 58).map (fun i => (i.zero, i.size, i.bytes)) = some (some (.agg #[.int .i64 0, .int .i64 0, .int .i64 0, .slice none 0 0, .int .i64 0, .int .i64 0, .int .i64 0, .int .i64 0, .int .i64 0, .bool false, .bool false]), 11, 104) := by kernel_rfl

/-- The plain message; its cells. -/
def MgO.mg (x : MgO) : Mg := ⟨x.n, x.a, x.b, x.is, x.k, x.t, x.h⟩
def MvV (x : MgO) : List Value := [.int .i64 x.n, .int .i64 x.a, .int .i64 x.b, x.v, .int .i64 x.k, .int .i64 x.t.k, .int .i64 x.t.c, .int .i64 x.t.u, .int .i64 x.t.x, .bool x.t.g, .bool x.h]
theorem MvV_len (x : MgO) : (MvV x).length = 11 := rfl

/-- The slice value v reads as the messages ms; all their cells lie in blocks from lo on and below hi. -/
def RowM (lo hi : Nat) (w : World) (v : Value) (ms : List Mg) : Prop :=
  ∃ xs : List MgO, xs.map MgO.mg = ms ∧ RowC 11 MvV lo hi w v xs ∧ ∀ x ∈ xs, RowI lo hi w x.v x.is
theorem RowM.below {lo hi B : Nat} {w w' : World} {v : Value} {ms : List Mg} (h : RowM lo hi w v ms) (hb : Below B w w') (hB : hi ≤ B) : RowM lo hi w' v ms := by
  obtain ⟨xs, e, r, f⟩ := h
  exact ⟨xs, e, r.below hb hB, fun x hx => (f x hx).below hb hB⟩
theorem RowM.wide {lo hi lo' hi' : Nat} {w : World} {v : Value} {ms : List Mg} (h : RowM lo hi w v ms) (h1 : lo' ≤ lo) (h2 : hi ≤ hi') : RowM lo' hi' w v ms := by
  obtain ⟨xs, e, r, f⟩ := h
  exact ⟨xs, e, r.wide h1 h2, fun x hx => (f x hx).wide h1 h2⟩
theorem RowM.alloc {lo hi : Nat} {w : World} {v : Value} {ms : List Mg} (h : RowM lo hi w v ms) (o : Obj) : RowM lo hi (w.alloc o) v ms := by
  obtain ⟨xs, e, r, f⟩ := h
  exact ⟨xs, e, r.alloc o MvV_len, fun x hx => (f x hx).alloc o⟩
theorem RowM.drewN {lo hi : Nat} {w : World} {v : Value} {ms : List Mg} (h : RowM lo hi w v ms) (q : Nat) : RowM lo hi (w.drewN q) v ms := by
  obtain ⟨xs, e, r, f⟩ := h
  exact ⟨xs, e, r.drewN q, fun x hx => (f x hx).drewN q⟩
theorem RowM.nil0 {lo hi : Nat} {w : World} : RowM lo hi w (.slice none 0 0) [] := ⟨[], rfl, RowC.nil0, fun x hx => by cases hx⟩

/-- A message stands in eleven cells from o on; its places lie in a block of their own. -/
def MgAt (lo hi : Nat) (w : World) (b o : Nat) (x : MgO) : Prop :=
  (∀ i, i < 11 → w.cell? ⟨b, o + i, none⟩ = (MvV x)[i]?) ∧ RowI lo hi w x.v x.is
theorem MgAt.below {lo hi B : Nat} {w w' : World} {b o : Nat} {x : MgO} (h : MgAt lo hi w b o x) (hb : Below B w w') (hB : hi ≤ B) (hbB : b < B) : MgAt lo hi w' b o x :=
  ⟨fun i hi' => (hb.cell (p := ⟨b, o + i, none⟩) hbB).trans (h.1 i hi'), h.2.below hb hB⟩
/-- A row of messages as a function of its places. -/
theorem RowM.at {lo hi : Nat} {w : World} {v : Value} {ms : List Mg} (h : RowM lo hi w v ms) :
    ∃ p c, v = .slice p ms.length c ∧ ms.length ≤ 9223372036854775807 ∧ (0 < ms.length → ∃ b off, p = some ⟨b, off, none⟩ ∧ lo ≤ b ∧ b < hi ∧ ∀ j (hj : j < ms.length), ∃ x : MgO, x.mg = ms[j] ∧ MgAt lo hi w b (off + j * 11) x) := by
  obtain ⟨xs, e, ⟨p, cap, rfl, hl, hc, hx⟩, f⟩ := h
  subst e
  unfold maxLen at hc
  refine ⟨p, cap, by rw [List.length_map], by simp; omega, fun h0 => ?_⟩
  obtain ⟨b, off, rfl, h1, h2, h3⟩ := hx (by intro e; simp [e] at h0)
  refine ⟨b, off, rfl, h1, h2, fun j hj => ?_⟩
  have hj' : j < xs.length := by simpa using hj
  refine ⟨xs[j], by simp, fun i hi => ?_, f _ (List.getElem_mem hj')⟩
  have : j * 11 + i < xs.length * 11 := by omega
  rw [Nat.add_assoc, (h3 _ this).1, flat_at MvV_len xs j i hj' hi]

/-- A row of messages of the call's own, every list of places too. -/
def OwnM (base : Nat) (w : World) (v : Value) (ms : List Mg) : Prop :=
  ∃ xs : List MgO, xs.map MgO.mg = ms ∧ w.ownsRow base 58 11 v ms.length (xs.flatMap MvV) ∧ ∀ x ∈ xs, w.ownsRow base 3 1 x.v x.is.length (x.is.map (Value.int .i64))
theorem OwnM.nil0 {base : Nat} {w : World} : OwnM base w (.slice none 0 0) [] := ⟨[], rfl, ⟨rfl, .inl ⟨rfl, rfl⟩⟩, fun x hx => by cases hx⟩
theorem OwnM.row {base : Nat} {w : World} {v : Value} {ms : List Mg} (h : OwnM base w v ms) : RowM base w.heap.size w v ms := by
  obtain ⟨xs, e, r, f⟩ := h
  exact ⟨xs, e, RowC.of_owns (by decide) MvV_len r, fun x hx => RowI.of_owns (f x hx)⟩
theorem OwnM.below {base : Nat} {w w' : World} {v : Value} {ms : List Mg} (h : OwnM base w v ms) (hb : Below w.heap.size w w') : OwnM base w' v ms := by
  obtain ⟨xs, e, r, f⟩ := h
  exact ⟨xs, e, ownsRow_below r hb, fun x hx => ownsRow_below (f x hx) hb⟩
theorem OwnM.alloc {base : Nat} {w : World} {v : Value} {ms : List Mg} (h : OwnM base w v ms) (o : Obj) : OwnM base (w.alloc o) v ms := h.below ((Below.refl _ w).onA o)
theorem OwnM.low {base base' : Nat} {w : World} {v : Value} {ms : List Mg} (h : OwnM base w v ms) (hb : base' ≤ base) : OwnM base' w v ms := by
  have low : ∀ {e : TypeId} {s n : Nat} {v : Value} {xs : List Value}, w.ownsRow base e s v n xs → w.ownsRow base' e s v n xs := fun ⟨h1, h2⟩ => ⟨h1, h2.imp id fun ⟨g, c, cur, a1, a2, a3⟩ => ⟨g, c, cur, a1, Nat.le_trans hb a2, a3⟩⟩
  obtain ⟨xs, e, r, f⟩ := h
  exact ⟨xs, e, low r, fun x hx => low (f x hx)⟩
/-- Rows of two types lie in two blocks. -/
theorem apart_own {w : World} {b1 b2 : Nat} {e1 e2 : TypeId} {s1 s2 n k : Nat} {v u : Value} {xs ys : List Value} (h1 : w.ownsRow b1 e1 s1 v n xs) (h2 : w.ownsRow b2 e2 s2 u k ys) (he : e1 ≠ e2) : v.ownBlock = none ∨ v.ownBlock ≠ u.ownBlock := by
  rcases h1.2 with ⟨rfl, _⟩ | ⟨g1, c1, cur1, rfl, _, hh1, _⟩
  · exact .inl rfl
  · right
    intro e
    rcases h2.2 with ⟨rfl, _⟩ | ⟨g2, c2, cur2, rfl, _, hh2, _⟩
    · cases e
    · cases e
      rw [hh1] at hh2
      cases hh2
      exact he rfl
theorem own_sliceM {w : World} {base n s : Nat} {e : TypeId} {v : Value} {xs : List Value} (h : w.ownsRow base e s v n xs) : ∃ p c, v = .slice p n c := by
  rcases h.2 with ⟨rfl, e⟩ | ⟨g, c, cur, rfl, _⟩
  · exact ⟨none, 0, by rw [e]⟩
  · exact ⟨_, c, rfl⟩
theorem OwnM.cap {base : Nat} {w : World} {v : Value} {ms : List Mg} (h : OwnM base w v ms) : ∃ p c, v = .slice p ms.length c := by
  obtain ⟨xs, -, r, -⟩ := h
  exact own_sliceM r
theorem MvV_one {w : World} {base n : Nat} (x : MgO) (h : w.ownsRow base 3 1 x.v n (x.is.map (Value.int .i64))) : ∀ u ∈ MvV x, u.oneCell' = true := by
  obtain ⟨p, c, e⟩ := own_sliceM h
  intro u hu
  simp only [MvV, List.mem_cons, List.not_mem_nil, or_false] at hu
  rcases hu with rfl | rfl | rfl | rfl | rfl | rfl | rfl | rfl | rfl | rfl | rfl
  all_goals first | rfl | (rw [e]; rfl)

/-- What stands in a row of the call's own. -/
theorem OwnM.at {base : Nat} {w : World} {v : Value} {ms : List Mg} (h : OwnM base w v ms) (hne : 0 < ms.length) :
    ∃ (g c : Nat) (xs : List MgO), v = .slice (some ⟨g, 0, none⟩) ms.length c ∧ ms.length ≤ c ∧ base ≤ g ∧ g < w.heap.size ∧ xs.map MgO.mg = ms ∧ (∀ j, j < ms.length * 11 → w.cell? ⟨g, j, none⟩ = (xs.flatMap MvV)[j]?) ∧ ∀ x ∈ xs, w.ownsRow base 3 1 x.v x.is.length (x.is.map (Value.int .i64)) := by
  obtain ⟨xs, e, r, f⟩ := h
  have r0 := r
  obtain ⟨h1, h2⟩ := r
  rcases h2 with ⟨-, h2⟩ | ⟨g, c, cur, rfl, hg, hh, hle, -⟩
  · omega
  · exact ⟨g, c, xs, rfl, hle, hg, (r0.lt g rfl).2, e, fun j hj => r0.cellAt j hj, f⟩
end Go.Proofs.YtghamcomjfholaaGreat
