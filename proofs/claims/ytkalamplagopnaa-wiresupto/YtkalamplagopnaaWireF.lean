
/-
  Contract of Get: the message that bytes tell of.
-/
import Derived.Test.YtkalamplagopnaaWireE
import Derived.Test.YtkalamplagopnaaWirePut
import Derived.Test.YtkalamplagopnaaMsgRow
namespace Go.Proofs.Ytkalamplagopnaa
open Go.ChangeShapes Go.WideShapes Go.ChangeAt Go.RowKit

theorem wRead_any {L : List Int} (hL : Byts L) (hm : L.length ≤ 140737488355328) (w : World) :
    Calls Try.prog 23 #[.string (sb L)] w fun e w' => ∃ p c, e = .returned (.agg #[.int .i64 (rdM L).n, .int .i64 (rdM L).a, .int .i64 (rdM L).b, .slice p (rdM L).is.length c, .int .i64 (rdM L).k, .int .i64 (rdM L).t.k, .int .i64 (rdM L).t.c, .int .i64 (rdM L).t.u, .int .i64 (rdM L).t.x, .bool (rdM L).t.g, .bool (rdM L).h]) ∧ RowI w.heap.size w'.heap.size w' (.slice p (rdM L).is.length c) (rdM L).is ∧ Below w.heap.size w w' := by
  obtain ⟨z0, e0⟩ : ∃ z, L.getD 0 0 = z := ⟨_, rfl⟩
  obtain ⟨z1, e1⟩ : ∃ z, L.getD 1 0 = z := ⟨_, rfl⟩
  obtain ⟨z2, e2⟩ : ∃ z, L.getD 2 0 = z := ⟨_, rfl⟩
  obtain ⟨z3, e3⟩ : ∃ z, L.getD 3 0 = z := ⟨_, rfl⟩
  obtain ⟨z4, e4⟩ : ∃ z, L.getD 4 0 = z := ⟨_, rfl⟩
  have hD : rdM L = if z0 = 0 then ⟨z0, z1, z2, rdIds L 3, 0, zeroI, false⟩ else if z0 = 1 then ⟨z0, z1, z2, [], 0, rdI L 3, false⟩ else if z0 = 2 then ⟨z0, z1, z2, [], z3, zeroI, false⟩
      else if z0 = 3 then ⟨z0, z1, z2, [], z3, if z4 = 1 then rdI L 5 else zeroI, decide (z4 = 1)⟩ else ⟨z0, z1, z2, [], 0, zeroI, false⟩ := by simp only [rdM, e0, e1, e2, e3, e4]
  rw [hD]
  by_cases k0 : z0 = 0
  · subst k0
    rw [if_pos rfl]
    exact wRead0 hL hm e0 e1 e2 rfl w
  by_cases k1 : z0 = 1
  · subst k1
    rw [if_neg k0, if_pos rfl]
    exact wRead1 hL hm e0 e1 e2 rfl w
  by_cases k2 : z0 = 2
  · subst k2
    rw [if_neg k0, if_neg k1, if_pos rfl]
    exact wRead2 hL hm e0 e1 e2 e3 w
  by_cases k3 : z0 = 3
  · subst k3
    rw [if_neg k0, if_neg k1, if_neg k2, if_pos rfl]
    by_cases k4 : z4 = 1
    · subst k4
      rw [if_pos rfl]
      exact wRead3a hL hm e0 e1 e2 e3 e4 rfl w
    · rw [if_neg k4, show decide (z4 = 1) = false by simpa using k4]
      exact wRead3b hL hm e0 e1 e2 e3 e4 k4 w
  · rw [if_neg k0, if_neg k1, if_neg k2, if_neg k3]
    exact wRead4 hL hm e0 e1 e2 k0 k1 k2 k3 w

theorem str_un {s t : ByteArray} (h : ¬ s = t) : (s.toList == t.toList) = false := by
  rw [beq_eq_false_iff_ne, ByteArray.toList_eq, ByteArray.toList_eq]
  intro e
  apply h
  obtain ⟨⟨l⟩⟩ := s
  obtain ⟨⟨m⟩⟩ := t
  simp only at e
  rw [e]

set_option maxHeartbeats 4000000 in
theorem wGet_any {L : List Int} (hL : Byts L) (hm : L.length ≤ 140737488355328) (w : World) :
    Calls Try.prog 11 #[.string (sb L)] w fun e w' => ∃ p c, e = .returned (.tuple #[.agg #[.int .i64 (getM L).n, .int .i64 (getM L).a, .int .i64 (getM L).b, .slice p (getM L).is.length c, .int .i64 (getM L).k, .int .i64 (getM L).t.k, .int .i64 (getM L).t.c, .int .i64 (getM L).t.u, .int .i64 (getM L).t.x, .bool (getM L).t.g, .bool (getM L).h], .int .i64 (getE L)]) ∧ RowI w.heap.size w'.heap.size w' (.slice p (getM L).is.length c) (getM L).is ∧ Below w.heap.size w w' := by
  have HR := fun W => wRead_any hL hm W
  obtain ⟨hG, hDD⟩ := get_read L
  obtain ⟨D, hD⟩ : ∃ D, rdM L = D := ⟨_, rfl⟩
  rw [hD] at hG hDD HR
  have gM : getM L = if getB L = true then D else zeroM := by
    by_cases q : getB L = true
    · rw [if_pos q, hDD q]
    · rw [if_neg q, getM, if_neg q]
  have gE : getE L = if getB L = true then 0 else 1300 := rfl
  have B0 := toHid (Box.new w #[.int .i64 0, .int .i64 0, .int .i64 0, .slice none 0 0, .int .i64 0, .int .i64 0, .int .i64 0, .int .i64 0, .int .i64 0, .bool false, .bool false] 28)
  clear hD hDD
  obtain ⟨n, a, b, is, k, ⟨tk, tc, tu, tx, tg⟩, h⟩ := D
  dsimp only at HR
  replace HR := toHid HR
  have KP := toHid (fun (W : World) (v : Value) (lo hi : Nat) (h0 : RowI lo hi W v is) (hh : hi ≤ W.heap.size) => wPut_any h0 hh n a b k tk tc tu tx tg h)
  cases hmm : mayB ⟨n, a, b, is, k, ⟨tk, tc, tu, tx, tg⟩, h⟩ with
  | false =>
    have q : getB L = false := by rw [hG, hmm]; rfl
    rw [if_neg (by simp [q])] at gM gE
    have e1 : putL ⟨n, a, b, is, k, ⟨tk, tc, tu, tx, tg⟩, h⟩ = [] := by simp [putL, hmm]
    have e2 : putE ⟨n, a, b, is, k, ⟨tk, tc, tu, tx, tg⟩, h⟩ = 1300 := by simp [putE, hmm]
    rw [e1, e2] at KP
    replace gM := toHid gM
    replace gE := toHid gE
    clear hG q e1 e2 hmm
    go_enter Try.func11, Try.ntmps11
    go_wp2_with (first
        | (go_at_call 23; refine (HR.out _).mono ?_; rintro e w1 ⟨p, c, rfl, R1, h1⟩
           have RX := toHid (R1.alloc (.cells #[.int .i64 n, .int .i64 a, .int .i64 b, .slice p is.length c, .int .i64 k, .int .i64 tk, .int .i64 tc, .int .i64 tu, .int .i64 tx, .bool tg, .bool h] 28))
           have BX := toHid (Box.new w1 #[.int .i64 n, .int .i64 a, .int .i64 b, .slice p is.length c, .int .i64 k, .int .i64 tk, .int .i64 tc, .int .i64 tu, .int .i64 tx, .bool tg, .bool h] 28)
           have BZ := toHid ((B0.out.below h1).alloc (.cells #[.int .i64 n, .int .i64 a, .int .i64 b, .slice p is.length c, .int .i64 k, .int .i64 tk, .int .i64 tc, .int .i64 tu, .int .i64 tx, .bool tg, .bool h] 28))
           have hb := toHid ((((Below.refl _ w).onA (.cells #[.int .i64 0, .int .i64 0, .int .i64 0, .slice none 0 0, .int .i64 0, .int .i64 0, .int .i64 0, .int .i64 0, .int .i64 0, .bool false, .bool false] 28)).on h1).onA (.cells #[.int .i64 n, .int .i64 a, .int .i64 b, .slice p is.length c, .int .i64 k, .int .i64 tk, .int .i64 tc, .int .i64 tu, .int .i64 tx, .bool tg, .bool h] 28))
           have zz := h1.size
           have zx : w1.heap.size ≠ w.heap.size := by have := h1.size; simp at this; omega
           have zy : w.heap.size ≠ w1.heap.size := zx.symm
           clear R1 h1)
        | (go_at_call 9; refine (KP.out _ _ _ _ RX.out (by simp)).mono ?_; rintro e w3 ⟨rfl, h3⟩
           have B3 := BZ.out.below h3
           obtain ⟨x1, x2, x3⟩ := id B3
           obtain ⟨y1, y2, y3⟩ := BX.out.below h3))
    all_goals
      have S := B3.set11 (.int .i64 0) (.int .i64 0) (.int .i64 0) (.slice none 0 0) (.int .i64 0) (.int .i64 0) (.int .i64 0) (.int .i64 0) (.int .i64 0) (.bool false) (.bool false)
      refine bodyPost_ret (v := .tuple #[.agg #[.int .i64 0, .int .i64 0, .int .i64 0, .slice none 0 0, .int .i64 0, .int .i64 0, .int .i64 0, .int .i64 0, .int .i64 0, .bool false, .bool false], .int .i64 1300]) (by simp [results, Try.results11, go_sem, x2]) rfl ?_
      exact ⟨none, 0, by rw [gM.out, gE.out]; rfl, by rw [gM.out]; exact RowI.nil0, (hb.out.on h3).trans S.2.below⟩
  | true =>
    have e1 : putL ⟨n, a, b, is, k, ⟨tk, tc, tu, tx, tg⟩, h⟩ = encM ⟨n, a, b, is, k, ⟨tk, tc, tu, tx, tg⟩, h⟩ := by simp [putL, hmm]
    have e2 : putE ⟨n, a, b, is, k, ⟨tk, tc, tu, tx, tg⟩, h⟩ = 0 := by simp [putE, hmm]
    rw [e1, e2] at KP
    rw [hmm, Bool.true_and] at hG
    by_cases hE : encM ⟨n, a, b, is, k, ⟨tk, tc, tu, tx, tg⟩, h⟩ = L
    · have q : getB L = true := by rw [hG]; simpa using hE
      rw [if_pos q] at gM gE
      rw [hE] at KP
      replace gM := toHid gM
      replace gE := toHid gE
      clear hG q e1 e2 hmm hE
      go_enter Try.func11, Try.ntmps11
      go_wp2_with (first
          | (go_at_call 23; refine (HR.out _).mono ?_; rintro e w1 ⟨p, c, rfl, R1, h1⟩
             have RX := toHid (R1.alloc (.cells #[.int .i64 n, .int .i64 a, .int .i64 b, .slice p is.length c, .int .i64 k, .int .i64 tk, .int .i64 tc, .int .i64 tu, .int .i64 tx, .bool tg, .bool h] 28))
             have BX := toHid (Box.new w1 #[.int .i64 n, .int .i64 a, .int .i64 b, .slice p is.length c, .int .i64 k, .int .i64 tk, .int .i64 tc, .int .i64 tu, .int .i64 tx, .bool tg, .bool h] 28)
             have BZ := toHid ((B0.out.below h1).alloc (.cells #[.int .i64 n, .int .i64 a, .int .i64 b, .slice p is.length c, .int .i64 k, .int .i64 tk, .int .i64 tc, .int .i64 tu, .int .i64 tx, .bool tg, .bool h] 28))
             have hb := toHid ((((Below.refl _ w).onA (.cells #[.int .i64 0, .int .i64 0, .int .i64 0, .slice none 0 0, .int .i64 0, .int .i64 0, .int .i64 0, .int .i64 0, .int .i64 0, .bool false, .bool false] 28)).on h1).onA (.cells #[.int .i64 n, .int .i64 a, .int .i64 b, .slice p is.length c, .int .i64 k, .int .i64 tk, .int .i64 tc, .int .i64 tu, .int .i64 tx, .bool tg, .bool h] 28))
             have zz := h1.size
             have zx : w1.heap.size ≠ w.heap.size := by have := h1.size; simp at this; omega
             have zy : w.heap.size ≠ w1.heap.size := zx.symm
             clear R1 h1)
          | (go_at_call 9; refine (KP.out _ _ _ _ RX.out (by simp)).mono ?_; rintro e w3 ⟨rfl, h3⟩
             have B3 := BZ.out.below h3
             obtain ⟨x1, x2, x3⟩ := id B3
             obtain ⟨y1, y2, y3⟩ := BX.out.below h3))
      have S := B3.set11 (.int .i64 n) (.int .i64 a) (.int .i64 b) (.slice p is.length c) (.int .i64 k) (.int .i64 tk) (.int .i64 tc) (.int .i64 tu) (.int .i64 tx) (.bool tg) (.bool h)
      refine bodyPost_ret (v := .tuple #[.agg #[.int .i64 n, .int .i64 a, .int .i64 b, .slice p is.length c, .int .i64 k, .int .i64 tk, .int .i64 tc, .int .i64 tu, .int .i64 tx, .bool tg, .bool h], .int .i64 0]) (by simp [results, Try.results11, go_sem, x2]) rfl ?_
      have sz := S.2.size
      simp only [World.size_alloc] at zz
      exact ⟨p, c, by rw [gM.out, gE.out], by rw [gM.out]; exact (((RX.out.below h3 (by simp)).only S.2 (.inr (by simp))).wide (by simp) (by have := h3.size; simp at this; omega)), (hb.out.on h3).trans S.2.below⟩
    · have q : getB L = false := by rw [hG]; simpa using hE
      rw [if_neg (by simp [q])] at gM gE
      obtain ⟨X, hX⟩ : ∃ X, sb (encM ⟨n, a, b, is, k, ⟨tk, tc, tu, tx, tg⟩, h⟩) = X := ⟨_, rfl⟩
      have hne2 : ¬ X = sb L := fun e => hE (by rw [← bl_sb (encM_byts ⟨n, a, b, is, k, ⟨tk, tc, tu, tx, tg⟩, h⟩), ← bl_sb hL, hX, e])
      have hne3 : (X.toList == (sb L).toList) = false := str_un hne2
      rw [hX] at KP
      replace gM := toHid gM
      replace gE := toHid gE
      clear hG q e1 e2 hmm hE hX
      go_enter Try.func11, Try.ntmps11
      go_wp2_with (first
          | (go_at_call 23; refine (HR.out _).mono ?_; rintro e w1 ⟨p, c, rfl, R1, h1⟩
             have RX := toHid (R1.alloc (.cells #[.int .i64 n, .int .i64 a, .int .i64 b, .slice p is.length c, .int .i64 k, .int .i64 tk, .int .i64 tc, .int .i64 tu, .int .i64 tx, .bool tg, .bool h] 28))
             have BX := toHid (Box.new w1 #[.int .i64 n, .int .i64 a, .int .i64 b, .slice p is.length c, .int .i64 k, .int .i64 tk, .int .i64 tc, .int .i64 tu, .int .i64 tx, .bool tg, .bool h] 28)
             have BZ := toHid ((B0.out.below h1).alloc (.cells #[.int .i64 n, .int .i64 a, .int .i64 b, .slice p is.length c, .int .i64 k, .int .i64 tk, .int .i64 tc, .int .i64 tu, .int .i64 tx, .bool tg, .bool h] 28))
             have hb := toHid ((((Below.refl _ w).onA (.cells #[.int .i64 0, .int .i64 0, .int .i64 0, .slice none 0 0, .int .i64 0, .int .i64 0, .int .i64 0, .int .i64 0, .int .i64 0, .bool false, .bool false] 28)).on h1).onA (.cells #[.int .i64 n, .int .i64 a, .int .i64 b, .slice p is.length c, .int .i64 k, .int .i64 tk, .int .i64 tc, .int .i64 tu, .int .i64 tx, .bool tg, .bool h] 28))
             have zz := h1.size
             have zx : w1.heap.size ≠ w.heap.size := by have := h1.size; simp at this; omega
             have zy : w.heap.size ≠ w1.heap.size := zx.symm
             clear R1 h1)
          | (go_at_call 9; refine (KP.out _ _ _ _ RX.out (by simp)).mono ?_; rintro e w3 ⟨rfl, h3⟩
             have B3 := BZ.out.below h3
             obtain ⟨x1, x2, x3⟩ := id B3
             obtain ⟨y1, y2, y3⟩ := BX.out.below h3))
      have S := B3.set11 (.int .i64 0) (.int .i64 0) (.int .i64 0) (.slice none 0 0) (.int .i64 0) (.int .i64 0) (.int .i64 0) (.int .i64 0) (.int .i64 0) (.bool false) (.bool false)
      refine bodyPost_ret (v := .tuple #[.agg #[.int .i64 0, .int .i64 0, .int .i64 0, .slice none 0 0, .int .i64 0, .int .i64 0, .int .i64 0, .int .i64 0, .int .i64 0, .bool false, .bool false], .int .i64 1300]) (by simp [results, Try.results11, go_sem, x2]) rfl ?_
      exact ⟨none, 0, by rw [gM.out, gE.out]; rfl, by rw [gM.out]; exact RowI.nil0, (hb.out.on h3).trans S.2.below⟩

end Go.Proofs.Ytkalamplagopnaa
