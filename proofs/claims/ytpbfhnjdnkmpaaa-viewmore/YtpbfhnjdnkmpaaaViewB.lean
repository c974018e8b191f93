
/-
  Contracts of package view's answers (who is next; who was before; who owns a key), at every view: what they return, and that no old memory has turned.
-/
import Derived.Test.YtpbfhnjdnkmpaaaViewA
namespace Go.Proofs.Ytpbfhnjdnkmpaaa
open Go.ChangeShapes Go.WideShapes Go.ChangeAt Go.RowKit

theorem rem_one {L : Nat} (h : 1 < L) : (1 : Int).tmod (L : Int) = 1 := by
  rw [Int.tmod_eq_emod_of_nonneg (by omega)]
  exact Int.emod_eq_of_lt (by omega) (by omega)

set_option maxHeartbeats 1000000 in
theorem vSucc_any {lo hi : Nat} {w : World} {p q : Value} {ps : List Pe} {is : List Int} (i : Int) (h : VwAt lo hi w p q ps is) (hh : hi ≤ w.heap.size) :
    Calls Try.prog 9 #[.agg #[.int .i64 i, p, q]] w fun e w' => e = .returned (.tuple #[.int .i64 (sucV i ps is), .int .i64 (vwE i ps is)]) ∧ Below w.heap.size w w' := by
  have H1 := toHid (fun o : Obj => vMay_any i (h.alloc o) (Nat.le_trans hh (by simp)))
  obtain ⟨a, c, a', c', ep, eq, hn, hn'⟩ := h.shape
  subst ep eq
  have B1 := toHid (fun (cs : Array Value) (t : TypeId) => Box.new w cs t)
  rcases Bool.eq_false_or_eq_true (vwB i ps is) with h1 | h1
  · rw [h1] at H1
    have hl := vw_len h1
    have hV : sucV i ps is = (idL i ps).getD (min 1 ps.length) 0 := by simp [sucV, h1]
    have hE : vwE i ps is = 0 := by simp [vwE, h1]
    rw [hV, hE]
    clear hV hE h1
    have HI := toHid (fun (o : Obj) (w1 : World) (hb : Below (w.alloc o).heap.size (w.alloc o) w1) => vIds_any i ((h.alloc o).below hb (Nat.le_trans hh (by simp))) (Nat.le_trans hh (Nat.le_trans (by simp) hb.size)) hl)
    have HL := toHid (idL_len i ps)
    have HN := toHid (idL_ne i ps)
    clear h
    generalize idL i ps = ys at HI HL HN ⊢
    obtain ⟨L, hL⟩ : ∃ L, ys.length = L := ⟨_, rfl⟩
    have HL2 : L = ps.length + 1 := hL ▸ HL.out
    generalize hz : ys.getD (min 1 ps.length) 0 = z
    rcases Nat.eq_zero_or_pos ps.length with h0 | h0
    · rw [h0] at HL2 hz
      subst HL2
      clear h0 HL
      replace hz := toHid hz
      replace hL := toHid hL
      go_enter Try.func9, Try.ntmps9
      go_wp2_with (first
        | (go_at_call 16; refine (H1.out _).mono ?_; rintro e w1 ⟨rfl, hb1⟩
           obtain ⟨b1, b2, b3⟩ := (B1.out _ _).below hb1)
        | (go_at_call 26; refine (HI.out _ _ hb1).mono ?_; rintro e w2 ⟨u, rfl, R2, hb2⟩
           obtain ⟨p2, k2, e2, -, -, R3⟩ := R2.out
           rw [hL.out] at e2
           subst e2
           obtain ⟨g2, o2, e3, -, -, R4⟩ := R3 HN.out
           subst e3
           have c2 := (R4 0 (by rw [hL.out]; omega)).1
           rw [show ys.getD 0 0 = z from hz.out, Nat.add_zero] at c2
           clear R2 R3 R4 b1 b2 b3))
      go_ret2
      exact ⟨rfl, (((Below.refl _ w).onA _).on hb1).on hb2⟩
    · have hL1 : 1 < L := by omega
      have hL1' : (1 : Int) < (L : Int) := by omega
      have hr := rem_one hL1
      have hne : ¬ (L : Int) = 0 := by omega
      have hm : min 1 ps.length = 1 := by omega
      rw [hm] at hz
      replace hz := toHid hz
      replace hL := toHid hL
      replace HL2 := toHid HL2
      clear h0 hm
      go_enter Try.func9, Try.ntmps9
      go_wp2_with (first
        | (go_at_call 16; refine (H1.out _).mono ?_; rintro e w1 ⟨rfl, hb1⟩
           obtain ⟨b1, b2, b3⟩ := (B1.out _ _).below hb1)
        | (go_at_call 26; refine (HI.out _ _ hb1).mono ?_; rintro e w2 ⟨u, rfl, R2, hb2⟩
           obtain ⟨p2, k2, e2, -, -, R3⟩ := R2.out
           rw [hL.out] at e2
           subst e2
           obtain ⟨g2, o2, e3, -, -, R4⟩ := R3 HN.out
           subst e3
           have c2 := (R4 1 (by rw [hL.out]; omega)).1
           rw [show ys.getD 1 0 = z from hz.out] at c2
           clear R2 R3 R4 b1 b2 b3))
      go_ret2
      exact ⟨rfl, (((Below.refl _ w).onA _).on hb1).on hb2⟩
  · have hV : sucV i ps is = 0 := by simp [sucV, h1]
    have hE : vwE i ps is = 900 := by simp [vwE, h1]
    rw [h1] at H1
    rw [hV, hE]
    clear hV hE h
    go_enter Try.func9, Try.ntmps9
    go_wp2_with (first
      | (go_at_call 16; refine (H1.out _).mono ?_; rintro e w1 ⟨rfl, hb1⟩))
    go_ret2
    exact ⟨rfl, ((Below.refl _ w).onA _).on hb1⟩

set_option maxHeartbeats 1000000 in
theorem vPred_any {lo hi : Nat} {w : World} {p q : Value} {ps : List Pe} {is : List Int} (i : Int) (h : VwAt lo hi w p q ps is) (hh : hi ≤ w.heap.size) :
    Calls Try.prog 11 #[.agg #[.int .i64 i, p, q]] w fun e w' => e = .returned (.tuple #[.int .i64 (preV i ps is), .int .i64 (vwE i ps is)]) ∧ Below w.heap.size w w' := by
  have H1 := toHid (fun o : Obj => vMay_any i (h.alloc o) (Nat.le_trans hh (by simp)))
  obtain ⟨a, c, a', c', ep, eq, hn, hn'⟩ := h.shape
  subst ep eq
  have B1 := toHid (fun (cs : Array Value) (t : TypeId) => Box.new w cs t)
  rcases Bool.eq_false_or_eq_true (vwB i ps is) with h1 | h1
  · rw [h1] at H1
    have hl := vw_len h1
    have hV : preV i ps is = (idL i ps).getD ps.length 0 := by simp [preV, h1]
    have hE : vwE i ps is = 0 := by simp [vwE, h1]
    rw [hV, hE]
    clear hV hE h1
    have HI := toHid (fun (o : Obj) (w1 : World) (hb : Below (w.alloc o).heap.size (w.alloc o) w1) => vIds_any i ((h.alloc o).below hb (Nat.le_trans hh (by simp))) (Nat.le_trans hh (Nat.le_trans (by simp) hb.size)) hl)
    have HL := toHid (idL_len i ps)
    have HN := toHid (idL_ne i ps)
    clear h
    generalize idL i ps = ys at HI HL HN ⊢
    generalize hz : ys.getD ps.length 0 = z
    replace hz := toHid hz
    go_enter Try.func11, Try.ntmps11
    go_wp2_with (first
      | (go_at_call 16; refine (H1.out _).mono ?_; rintro e w1 ⟨rfl, hb1⟩
         obtain ⟨b1, b2, b3⟩ := (B1.out _ _).below hb1)
      | (go_at_call 26; refine (HI.out _ _ hb1).mono ?_; rintro e w2 ⟨u, rfl, R2, hb2⟩
         obtain ⟨p2, k2, e2, -, -, R3⟩ := R2.out
         rw [HL.out] at e2
         subst e2
         obtain ⟨g2, o2, e3, -, -, R4⟩ := R3 HN.out
         subst e3
         have c2 := (R4 ps.length (by rw [HL.out]; omega)).1
         rw [show ys.getD ps.length 0 = z from hz.out] at c2
         clear R2 R3 R4 b1 b2 b3))
    go_ret2
    exact ⟨rfl, (((Below.refl _ w).onA _).on hb1).on hb2⟩
  · have hV : preV i ps is = 0 := by simp [preV, h1]
    have hE : vwE i ps is = 900 := by simp [vwE, h1]
    rw [h1] at H1
    rw [hV, hE]
    clear hV hE h
    go_enter Try.func11, Try.ntmps11
    go_wp2_with (first
      | (go_at_call 16; refine (H1.out _).mono ?_; rintro e w1 ⟨rfl, hb1⟩))
    go_ret2
    exact ⟨rfl, ((Below.refl _ w).onA _).on hb1⟩

set_option maxHeartbeats 1000000 in
theorem vOwner_any {lo hi : Nat} {w : World} {p q : Value} {ps : List Pe} {is : List Int} (i k : Int) (h : VwAt lo hi w p q ps is) (hh : hi ≤ w.heap.size) :
    Calls Try.prog 13 #[.agg #[.int .i64 i, p, q], .int .i64 k] w fun e w' => e = .returned (.tuple #[.int .i64 (owV i ps is k), .int .i64 (owE i ps is k)]) ∧ Below w.heap.size w w' := by
  have H1 := toHid (fun o : Obj => vMay_any i (h.alloc o) (Nat.le_trans hh (by simp)))
  obtain ⟨a, c, a', c', ep, eq, hn, hn'⟩ := h.shape
  subst ep eq
  have B1 := toHid (fun (cs : Array Value) (t : TypeId) => Box.new w cs t)
  rcases Bool.eq_false_or_eq_true (vwB i ps is) with h1 | h1
  · have hO := vw_own h1 k
    have HI := toHid (fun (o : Obj) (w1 : World) (hb : Below (w.alloc o).heap.size (w.alloc o) w1) => vIds_any i ((h.alloc o).below hb (Nat.le_trans hh (by simp))) (Nat.le_trans hh (Nat.le_trans (by simp) hb.size)) (vw_len h1))
    have HO := toHid (fun (lo hi : Nat) (w : World) (v : Value) (hv : RowI lo hi w v (idL i ps)) => owner_any hv k)
    rw [hO.1, hO.2] at HO
    rw [h1] at H1
    clear hO h
    rcases Bool.eq_false_or_eq_true (plB k) with hk | hk
    · have hE : owE i ps is k = 0 := by simp [owE, h1, hk]
      rw [hE]
      rw [if_pos hk] at HO
      clear hE h1 hk
      generalize owV i ps is k = z at *
      go_enter Try.func13, Try.ntmps13
      go_wp2_with (first
        | (go_at_call 16; refine (H1.out _).mono ?_; rintro e w1 ⟨rfl, hb1⟩
           obtain ⟨b1, b2, b3⟩ := (B1.out _ _).below hb1)
        | (go_at_call 26; refine (HI.out _ _ hb1).mono ?_; rintro e w2 ⟨u, rfl, R2, hb2⟩
           clear b1 b2 b3
           replace R2 := toHid R2)
        | (go_at_call 27; refine (HO.out _ _ _ _ R2.out).mono ?_; rintro e w3 ⟨rfl, hb3⟩))
      go_ret2
      exact ⟨rfl, ((((Below.refl _ w).onA _).on hb1).on hb2).on hb3⟩
    · have hE : owE i ps is k = 900 := by simp [owE, hk]
      have hV : owV i ps is k = 0 := by simp [owV, hk]
      rw [hE, hV]
      rw [if_neg (by simp [hk]), hV] at HO
      clear hE h1 hk hV
      go_enter Try.func13, Try.ntmps13
      go_wp2_with (first
        | (go_at_call 16; refine (H1.out _).mono ?_; rintro e w1 ⟨rfl, hb1⟩
           obtain ⟨b1, b2, b3⟩ := (B1.out _ _).below hb1)
        | (go_at_call 26; refine (HI.out _ _ hb1).mono ?_; rintro e w2 ⟨u, rfl, R2, hb2⟩
           clear b1 b2 b3
           replace R2 := toHid R2)
        | (go_at_call 27; refine (HO.out _ _ _ _ R2.out).mono ?_; rintro e w3 ⟨rfl, hb3⟩))
      go_ret2
      exact ⟨rfl, ((((Below.refl _ w).onA _).on hb1).on hb2).on hb3⟩
  · have hV : owV i ps is k = 0 := by simp [owV, h1]
    have hE : owE i ps is k = 900 := by simp [owE, h1]
    rw [h1] at H1
    rw [hV, hE]
    clear hV hE h
    go_enter Try.func13, Try.ntmps13
    go_wp2_with (first
      | (go_at_call 16; refine (H1.out _).mono ?_; rintro e w1 ⟨rfl, hb1⟩))
    go_ret2
    exact ⟨rfl, ((Below.refl _ w).onA _).on hb1⟩

end Go.Proofs.Ytpbfhnjdnkmpaaa
