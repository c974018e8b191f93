
/-
  The best of two items as the greater of two numbers: in whatever row they are told.
-/
import Derived.Test.YtekefbhpkpoghaaItem
namespace Go.Proofs.Ytekefbhpkpoghaa

def rk (a : It) : Int := ((a.c * 256 + a.u) * 2 + (if a.g = true then 1 else 0)) * 256 + a.x
def mx (a b : It) : It := if betB b a = true then b else a

theorem itB_bd {a : It} (h : itB a = true) : 1 ≤ a.c ∧ a.c ≤ 65535 ∧ 0 ≤ a.u ∧ a.u < 256 ∧ 0 ≤ a.x ∧ a.x ≤ 255 ∧ (a.g = true → a.x = 0) ∧ verB a.c a.u = true := by
  have hv : verB a.c a.u = true := by
    simp only [itB, Bool.and_eq_true] at h
    exact h.2.2.1
  have hv2 := hv
  simp [itB, byB] at h
  simp [verB, cntB, plB] at hv
  refine ⟨by omega, by omega, by omega, by omega, by omega, by omega, fun hg => ?_, hv2⟩
  rcases h.2.2.2 with h1 | h1
  · rw [hg] at h1; cases h1
  · exact h1

theorem rk_bet {a b : It} (ha : itB a = true) (hb : itB b = true) : betB a b = decide (rk b < rk a) := by
  obtain ⟨c0, c1, u0, u1, x0, x1, z0, va⟩ := itB_bd ha
  obtain ⟨d0, d1, v0, v1, y0, y1, z1, vb⟩ := itB_bd hb
  clear ha hb
  obtain ⟨k, c, u, x, g⟩ := a
  obtain ⟨l, d, v, y, h⟩ := b
  dsimp only at *
  rw [Bool.eq_iff_iff, decide_eq_true_iff]
  simp only [betB, rk]
  by_cases e : c = d ∧ u = v
  · rw [if_pos e]
    obtain ⟨rfl, rfl⟩ := e
    cases g <;> cases h <;> simp [oneB] at z0 z1 ⊢ <;> omega
  · rw [if_neg e]
    simp only [newB, va, vb, gtB, Bool.and_self, Bool.true_and, Bool.or_eq_true, Bool.and_eq_true, decide_eq_true_eq]
    cases g <;> cases h <;> simp at z0 z1 ⊢ <;> omega

theorem rk_inj {a b : It} (ha : itB a = true) (hb : itB b = true) (hk : a.k = b.k) (h : rk a = rk b) : a = b := by
  obtain ⟨c0, c1, u0, u1, x0, x1, z0, va⟩ := itB_bd ha
  obtain ⟨d0, d1, v0, v1, y0, y1, z1, vb⟩ := itB_bd hb
  clear ha hb va vb
  obtain ⟨k, c, u, x, g⟩ := a
  obtain ⟨l, d, v, y, h'⟩ := b
  dsimp only [rk] at *
  cases g <;> cases h' <;> simp at z0 z1 h ⊢ <;> omega

theorem mx_eq {a b : It} (ha : itB a = true) (hb : itB b = true) : mx a b = if rk a < rk b then b else a := by
  simp only [mx, rk_bet hb ha, decide_eq_true_eq]
theorem mx_or (a b : It) : mx a b = a ∨ mx a b = b := by
  unfold mx
  split
  · exact Or.inr rfl
  · exact Or.inl rfl
theorem mx_itB {a b : It} (ha : itB a = true) (hb : itB b = true) : itB (mx a b) = true := by
  rcases mx_or a b with h | h <;> rw [h] <;> assumption
theorem mx_k {a b : It} (hk : a.k = b.k) : (mx a b).k = b.k := by
  rcases mx_or a b with h | h <;> rw [h]
  exact hk
theorem mx_self {a : It} : mx a a = a := by
  rcases mx_or a a with h | h <;> exact h
theorem mx_comm {a b : It} (ha : itB a = true) (hb : itB b = true) (hk : a.k = b.k) : mx a b = mx b a := by
  rw [mx_eq ha hb, mx_eq hb ha]
  by_cases h1 : rk a < rk b
  · rw [if_pos h1, if_neg (by omega)]
  · rw [if_neg h1]
    by_cases h2 : rk b < rk a
    · rw [if_pos h2]
    · rw [if_neg h2]
      exact rk_inj ha hb hk (by omega)
theorem mx_assoc {a b c : It} (ha : itB a = true) (hb : itB b = true) (hc : itB c = true) : mx (mx a b) c = mx a (mx b c) := by
  rw [mx_eq (mx_itB ha hb) hc, mx_eq ha (mx_itB hb hc), mx_eq ha hb, mx_eq hb hc]
  by_cases h1 : rk a < rk b
  · rw [if_pos h1]
    by_cases h2 : rk b < rk c
    · rw [if_pos h2, if_pos (by omega)]
    · rw [if_neg h2, if_pos h1]
  · rw [if_neg h1]
    by_cases h2 : rk b < rk c
    · rw [if_pos h2]
    · rw [if_neg h2, if_neg (by omega), if_neg h1]
theorem bst_mx {a b : It} (ha : itB a = true) (hb : itB b = true) (hk : a.k = b.k) : bstI a b = mx a b ∧ bstE a b = 0 :=
  bst_yes (by simp [okB, ha, hb, hk])
end Go.Proofs.Ytekefbhpkpoghaa
