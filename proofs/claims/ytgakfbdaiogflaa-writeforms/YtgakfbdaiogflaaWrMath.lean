
/-
  Plain facts on what is written: where it is done, the item of the key is the new one, all others are as they were, and the node may be.
-/
import Derived.Test.YtgakfbdaiogflaaWriteA
namespace Go.Proofs.Ytgakfbdaiogflaa
open Go.ChangeShapes Go.WideShapes Go.ChangeAt Go.RowKit

section
variable {n : Nd} {k x : Int} {g : Bool}

/-- What holds where it was written. -/
structure WrY (n : Nd) (k x : Int) (g : Bool) : Prop where
  up : n.up = true
  nd : ndB n = true
  st : stB n.ts = true
  it : itB (wrIt n.i n.ts k x g) = true
  len : (ins n.ts (wrIt n.i n.ts k x g)).length ≤ 16
  st2 : stB (ins n.ts (wrIt n.i n.ts k x g)) = true
  res : wrN n k x g = ⟨true, n.i, n.ps, n.is, ins n.ts (wrIt n.i n.ts k x g), n.ls⟩
  nd2 : ndB ⟨true, n.i, n.ps, n.is, ins n.ts (wrIt n.i n.ts k x g), n.ls⟩ = true

theorem wr_yes (h : wrE n k x g = 0) : WrY n k x g := by
  cases hw : wrOk n k x with
  | false =>
    have e : wrE n k x g = 1700 := by simp [wrE, hw]
    omega
  | true =>
    have hE := wr_full (g := g) hw
    simp only [wrOk, Bool.and_eq_true] at hw
    obtain ⟨⟨hu, hn⟩, -, -⟩ := hw
    have h0 : putE n.ts (wrIt n.i n.ts k x g) = 0 := by
      rw [hE] at h
      by_cases e : putE n.ts (wrIt n.i n.ts k x g) = 0
      · exact e
      · rw [if_neg e] at h; omega
    obtain ⟨h1, h2, h3⟩ := putE_zero h0
    obtain ⟨e1, -, e3⟩ := put_ok h1 h2 h3
    have en : ndB n = true := hn
    obtain ⟨up, i, ps, is, ts, ls⟩ := n
    dsimp only at hu h1 h2 h3 e1 e3
    subst hu
    refine ⟨rfl, hn, h1, h2, h3, e3, ?_, ?_⟩
    · show (if _ = 0 then _ else _) = _
      rw [if_pos h, e1]
    · rw [ndB_up] at en
      simp only [Bool.and_eq_true] at en
      rw [ndB_up]
      simp only [Bool.and_eq_true]
      exact ⟨en.1, e3, en.2.2⟩

theorem wr_no (h : ¬ wrE n k x g = 0) : wrN n k x g = zeroN := by
  unfold wrN
  rw [if_neg h]

theorem WrY.other (h : WrY n k x g) {o : Int} (ho : ¬ k = o) : getI (ins n.ts (wrIt n.i n.ts k x g)) o = getI n.ts o ∧ getB (ins n.ts (wrIt n.i n.ts k x g)) o = getB n.ts o := by
  have hl := look_ins (x := wrIt n.i n.ts k x g) o (stB_iff.1 h.st).2.1
  rw [if_neg (show ¬ (wrIt n.i n.ts k x g).k = o from ho)] at hl
  simp [getI, getB, h.st, h.st2, hl]

theorem mx_next {a b : It} (ha : itB a = true) (hb : itB b = true) (h : b.c = a.c + 1) : mx a b = b := by
  rw [mx_eq ha hb]
  have h1 := itB_bd ha
  have h2 := itB_bd hb
  rw [if_pos]
  simp only [rk]
  split <;> split <;> omega

theorem WrY.own (h : WrY n k x g) : getI (ins n.ts (wrIt n.i n.ts k x g)) k = wrIt n.i n.ts k x g ∧ getB (ins n.ts (wrIt n.i n.ts k x g)) k = true := by
  have hl := look_ins (x := wrIt n.i n.ts k x g) k (stB_iff.1 h.st).2.1
  rw [if_pos (show (wrIt n.i n.ts k x g).k = k from rfl)] at hl
  have e : put1 (look n.ts k) (wrIt n.i n.ts k x g) = wrIt n.i n.ts k x g := by
    cases hk : look n.ts k with
    | none => rfl
    | some a =>
      have ha := (look_val (stB_iff.1 h.st).1 hk).1
      have e2 : getI n.ts k = a := by simp [getI, h.st, hk]
      exact mx_next ha h.it (by show wrC n.ts k = _; rw [wrC, e2])
  rw [e] at hl
  simp [getI, getB, h.st2, hl]

/-- The item that was there, and the new one: the best of both is the new one. -/
theorem WrY.best (h : WrY n k x g) (hb : getB n.ts k = true) : bstI (getI n.ts k) (wrIt n.i n.ts k x g) = wrIt n.i n.ts k x g ∧ bstE (getI n.ts k) (wrIt n.i n.ts k x g) = 0 := by
  cases hk : look n.ts k with
  | none => rw [getB, h.st, hk] at hb; cases hb
  | some a =>
    obtain ⟨ha, hk2⟩ := look_val (stB_iff.1 h.st).1 hk
    have e2 : getI n.ts k = a := by simp [getI, h.st, hk]
    rw [e2]
    obtain ⟨b1, b2⟩ := bst_mx ha h.it (show a.k = k from hk2)
    exact ⟨b1.trans (mx_next ha h.it (by show wrC n.ts k = _; rw [wrC, e2])), b2⟩
theorem WrY.first (h : WrY n k x g) (hb : getB n.ts k = false) : wrC n.ts k = 1 := by
  cases hk : look n.ts k with
  | none =>
    have e2 : getI n.ts k = zeroI := by simp [getI, h.st, hk]
    rw [wrC, e2]
    rfl
  | some a => rw [getB, h.st, hk] at hb; cases hb
end

end Go.Proofs.Ytgakfbdaiogflaa
