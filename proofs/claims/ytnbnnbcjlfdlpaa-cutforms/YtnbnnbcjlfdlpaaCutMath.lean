
/-
  Cuts, as plain lists: rising, each once; with one more, without one, whether one is there.
-/
import Derived.Test.YtnbnnbcjlfdlpaaPlaceMath
import Derived.Test.YtnbnnbcjlfdlpaaListMath
namespace Go.Proofs.Ytnbnnbcjlfdlpaa

theorem rise_uniq {α : Type} {f : α → Int} : ∀ (xs ys : List α), xs.Pairwise (fun x y => f x < f y) → ys.Pairwise (fun x y => f x < f y) → (∀ x, x ∈ xs ↔ x ∈ ys) → xs = ys
  | [], [], _, _, _ => rfl
  | [], y :: ys, _, _, h => absurd ((h y).2 (by simp)) (by simp)
  | x :: xs, [], _, _, h => absurd ((h x).1 (by simp)) (by simp)
  | x :: xs, y :: ys, hx, hy, h => by
    rw [List.pairwise_cons] at hx hy
    have hxy : x = y := by
      rcases List.mem_cons.1 ((h x).1 (by simp)) with e | e
      · exact e
      · rcases List.mem_cons.1 ((h y).2 (by simp)) with e' | e'
        · exact e'.symm
        · have := hy.1 x e
          have := hx.1 y e'
          omega
    subst hxy
    rw [rise_uniq xs ys hx.2 hy.2 ?_]
    intro z
    have hz := h z
    simp only [List.mem_cons] at hz
    constructor
    · intro hm
      rcases hz.1 (.inr hm) with rfl | e
      · have := hx.1 z hm; omega
      · exact e
    · intro hm
      rcases hz.2 (.inr hm) with rfl | e
      · have := hy.1 z hm; omega
      · exact e
/-- A cut, all of it; its place in the row. -/
structure Cu where
  a : Int
  b : Int
deriving DecidableEq, Inhabited
def cuK (c : Cu) : Int := c.a * 256 + c.b
def cuB (c : Cu) : Bool := plB c.a && (plB c.b && decide (c.a < c.b))
abbrev UpC (cs : List Cu) : Prop := cs.Pairwise (fun x y => cuK x < cuK y)
def csB (cs : List Cu) : Bool := decide (cs.length ≤ 32 ∧ (∀ c ∈ cs, cuB c = true) ∧ UpC cs)
def mkC (a b : Int) : Cu := ⟨min a b, max a b⟩
def loC (d x : Cu) : Bool := decide (cuK x < cuK d)
def hiC (d x : Cu) : Bool := decide (cuK d < cuK x)
def neC (d x : Cu) : Bool := !decide (x = d)
def wcI (cs : List Cu) (d : Cu) : List Cu := cs.filter (loC d) ++ d :: cs.filter (hiC d)
def cOk (cs : List Cu) (a b : Int) : Bool := csB cs && (plB a && (plB b && !decide (a = b)))
def icR (cs : List Cu) (a b : Int) : Bool := cOk cs a b && decide (mkC a b ∈ cs)
def icE (cs : List Cu) (a b : Int) : Int := if cOk cs a b = true then 0 else 1500
def wcL (cs : List Cu) (a b : Int) : List Cu := if cOk cs a b = true then (if (wcI cs (mkC a b)).length ≤ 32 then wcI cs (mkC a b) else []) else []
def wcE (cs : List Cu) (a b : Int) : Int := if cOk cs a b = true then (if (wcI cs (mkC a b)).length ≤ 32 then 0 else 1501) else 1500
def ocL (cs : List Cu) (a b : Int) : List Cu := if cOk cs a b = true then cs.filter (neC (mkC a b)) else []

theorem csB_iff {cs : List Cu} : csB cs = true ↔ cs.length ≤ 32 ∧ (∀ c ∈ cs, cuB c = true) ∧ UpC cs := by simp [csB]
theorem cu_in {c : Cu} (h : cuB c = true) : (0 ≤ c.a ∧ c.a < 256) ∧ (0 ≤ c.b ∧ c.b < 256) ∧ c.a < c.b := by
  simp only [cuB, Bool.and_eq_true, decide_eq_true_eq] at h
  have h1 := plB_yes h.1
  have h2 := plB_yes h.2.1
  exact ⟨h1, h2, h.2.2⟩
theorem cu_key {c d : Cu} (h1 : cuB c = true) (h2 : cuB d = true) (e : cuK c = cuK d) : c = d := by
  have a1 := cu_in h1
  have a2 := cu_in h2
  obtain ⟨a, b⟩ := c
  obtain ⟨a', b'⟩ := d
  simp only [cuK] at *
  have : a = a' := by omega
  have : b = b' := by omega
  subst_vars
  rfl
theorem mk_ok {a b : Int} (ha : plB a = true) (hb : plB b = true) (hne : ¬ a = b) : cuB (mkC a b) = true := by
  have h1 := plB_yes ha
  have h2 := plB_yes hb
  rcases Int.lt_or_gt_of_ne hne with h | h
  · have e1 : min a b = a := by omega
    have e2 : max a b = b := by omega
    simp [cuB, mkC, e1, e2, ha, hb, h]
  · have e1 : min a b = b := by omega
    have e2 : max a b = a := by omega
    simp [cuB, mkC, e1, e2, ha, hb, h]
theorem mk_comm (a b : Int) : mkC a b = mkC b a := by simp [mkC, Int.min_comm, Int.max_comm]
theorem upC_unique {xs ys : List Cu} (h1 : UpC xs) (h2 : UpC ys) (h : ∀ x, x ∈ xs ↔ x ∈ ys) : xs = ys := rise_uniq (f := cuK) xs ys h1 h2 h
theorem mem_loC {d x : Cu} {xs : List Cu} : x ∈ xs.filter (loC d) ↔ x ∈ xs ∧ cuK x < cuK d := by rw [List.mem_filter, loC, decide_eq_true_iff]
theorem mem_hiC {d x : Cu} {xs : List Cu} : x ∈ xs.filter (hiC d) ↔ x ∈ xs ∧ cuK d < cuK x := by rw [List.mem_filter, hiC, decide_eq_true_iff]
theorem mem_neC {d x : Cu} {xs : List Cu} : x ∈ xs.filter (neC d) ↔ x ∈ xs ∧ ¬ x = d := by rw [List.mem_filter]; simp [neC]
theorem wc_mem {xs : List Cu} {d x : Cu} (hx : ∀ c ∈ xs, cuB c = true) (hd : cuB d = true) : x ∈ wcI xs d ↔ x = d ∨ x ∈ xs := by
  unfold wcI
  rw [List.mem_append, List.mem_cons, mem_loC, mem_hiC]
  constructor
  · rintro (h | h | h)
    · exact .inr h.1
    · exact .inl h
    · exact .inr h.1
  · rintro (h | h)
    · exact .inr (.inl h)
    · rcases Int.lt_trichotomy (cuK x) (cuK d) with h1 | h1 | h1
      · exact .inl ⟨h, h1⟩
      · exact .inr (.inl (cu_key (hx x h) hd h1))
      · exact .inr (.inr ⟨h, h1⟩)
theorem wc_up {xs : List Cu} {d : Cu} (h : UpC xs) : UpC (wcI xs d) := by
  unfold wcI
  rw [UpC, List.pairwise_append, List.pairwise_cons]
  refine ⟨h.filter _, ⟨fun p hp => (mem_hiC.1 hp).2, h.filter _⟩, fun p hp q hq => ?_⟩
  have h1 := (mem_loC.1 hp).2
  rcases List.mem_cons.1 hq with rfl | hq
  · exact h1
  · have h2 := (mem_hiC.1 hq).2
    omega
theorem wc_same {xs : List Cu} {d : Cu} (h : UpC xs) (hx : ∀ c ∈ xs, cuB c = true) (hd : d ∈ xs) : wcI xs d = xs :=
  upC_unique (wc_up h) h fun x => by
    rw [wc_mem hx (hx d hd)]
    exact ⟨fun h => h.elim (fun e => e ▸ hd) id, .inr⟩
theorem wc_part {xs : List Cu} {d : Cu} (h : UpC xs) (hx : ∀ c ∈ xs, cuB c = true) (hd : cuB d = true) : xs.filter (loC d) ++ xs.filter (hiC d) = xs.filter (neC d) := by
  refine upC_unique ?_ (h.filter _) fun x => ?_
  · rw [UpC, List.pairwise_append]
    refine ⟨h.filter _, h.filter _, fun p hp q hq => ?_⟩
    have h1 := (mem_loC.1 hp).2
    have h2 := (mem_hiC.1 hq).2
    omega
  · rw [List.mem_append, mem_loC, mem_hiC, mem_neC]
    constructor
    · rintro (h | h)
      · exact ⟨h.1, fun e => by rw [e] at h; omega⟩
      · exact ⟨h.1, fun e => by rw [e] at h; omega⟩
    · rintro ⟨h1, h2⟩
      rcases Int.lt_trichotomy (cuK x) (cuK d) with h3 | h3 | h3
      · exact .inl ⟨h1, h3⟩
      · exact absurd (cu_key (hx x h1) hd h3) h2
      · exact .inr ⟨h1, h3⟩
theorem wc_len {xs : List Cu} {d : Cu} (h : UpC xs) (hx : ∀ c ∈ xs, cuB c = true) (hd : cuB d = true) : (wcI xs d).length = (xs.filter (neC d)).length + 1 := by
  rw [← wc_part h hx hd]
  unfold wcI
  rw [List.length_append, List.length_append, List.length_cons]
  omega
theorem wc_out {xs : List Cu} {d : Cu} (h : UpC xs) (hx : ∀ c ∈ xs, cuB c = true) (hd : cuB d = true) : (wcI xs d).filter (neC d) = xs.filter (neC d) :=
  upC_unique ((wc_up h).filter _) (h.filter _) fun x => by
    rw [mem_neC, mem_neC, wc_mem hx hd]
    exact ⟨fun ⟨h1, h2⟩ => ⟨h1.resolve_left h2, h2⟩, fun ⟨h1, h2⟩ => ⟨.inr h1, h2⟩⟩

end Go.Proofs.Ytnbnnbcjlfdlpaa
