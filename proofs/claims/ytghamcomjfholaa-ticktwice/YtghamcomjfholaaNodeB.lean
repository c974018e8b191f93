
/-
  Contracts of package node: which nodes may be; a new one.
-/
import Derived.Test.YtghamcomjfholaaNodeA
import Derived.Test.YtghamcomjfholaaViewA
import Derived.Test.YtghamcomjfholaaStoreB
import Derived.Test.YtghamcomjfholaaPassB
namespace Go.Proofs.Ytghamcomjfholaa
open Go.ChangeShapes Go.WideShapes Go.ChangeAt Go.RowKit

theorem vwB_none (i : Int) : vwB i [] [] = plB i := by
  cases h : plB i with
  | true =>
    rw [vwB_iff]
    refine ⟨?_, by decide +kernel, by simp, by simp⟩
    rw [psB_iff]
    simp [h]
  | false =>
    rw [Bool.eq_false_iff]
    intro e
    have := (psB_iff.1 (vwB_iff.1 e).1).1
    rw [h] at this
    cases this

theorem ndB_down (i : Int) (ps : List Pe) (is : List Int) (ts : List It) (ls : List Te) : ndB ⟨false, i, ps, is, ts, ls⟩ = (vwB i ps is && barB ps.length is.length ts.length ls.length) := by
  have e : ndB ⟨false, i, ps, is, ts, ls⟩ = (decide (ps.length + is.length + ts.length + ls.length = 0) && plB i) := by simp [ndB]
  rw [e]
  by_cases h : ps.length + is.length + ts.length + ls.length = 0
  · have z1 : ps = [] := List.eq_nil_of_length_eq_zero (by omega)
    have z2 : is = [] := List.eq_nil_of_length_eq_zero (by omega)
    have z3 : ts = [] := List.eq_nil_of_length_eq_zero (by omega)
    have z4 : ls = [] := List.eq_nil_of_length_eq_zero (by omega)
    subst z1 z2 z3 z4
    simp [vwB_none, barB]
  · have k : barB ps.length is.length ts.length ls.length = false := by
      rw [Bool.eq_false_iff]
      intro k
      simp only [barB, Bool.and_eq_true, decide_eq_true_eq] at k
      omega
    rw [k, decide_eq_false h]
    simp
theorem ndB_up (i : Int) (ps : List Pe) (is : List Int) (ts : List It) (ls : List Te) : ndB ⟨true, i, ps, is, ts, ls⟩ = (vwB i ps is && (stB ts && lgB ls)) := by
  have e : ndB ⟨true, i, ps, is, ts, ls⟩ = (ls.all teB && (vwB i ps is && (stB ts && decide (ls.length ≤ 64)))) := by simp [ndB]
  rw [e, lgB]
  cases ls.all teB <;> simp

set_option maxHeartbeats 2000000 in
theorem nMay_down {lo hi : Nat} {w : World} {p q r s : Value} {ps : List Pe} {is : List Int} {ts : List It} {ls : List Te} (i : Int) (h : NdAt lo hi w p q r s ps is ts ls) (hh : hi ≤ w.heap.size) :
    Calls Try.prog 19 #[.agg #[.bool false, .int .i64 i, p, q, r, s]] w fun e w' => e = .returned (.bool (ndB ⟨false, i, ps, is, ts, ls⟩)) ∧ Below w.heap.size w w' := by
  rw [ndB_down]
  have H1 := toHid (fun o : Obj => vMay_any i (h.vw.alloc o) (Nat.le_trans hh (by simp)))
  obtain ⟨a, c, a', c', a2, c2, a3, c3, rfl, rfl, rfl, rfl⟩ := h.shape
  have H2 := toHid (fun W : World => nKnows_any false i a a' a2 a3 ps.length is.length ts.length ls.length c c' c2 c3 W)
  have B1 := toHid (fun (cs : Array Value) (t : TypeId) => Box.new w cs t)
  generalize vwB i ps is = r1 at *
  generalize barB ps.length is.length ts.length ls.length = r2 at *
  clear h
  cases r1 with
  | true =>
    go_enter Try.func19, Try.ntmps19
    go_wp2_with (first
      | (go_at_call 31; refine (H1.out _).mono ?_; rintro e w1 ⟨rfl, hb1⟩
         obtain ⟨b1, b2, b3⟩ := (B1.out _ _).below hb1)
      | (go_at_call 32; refine (H2.out _).mono ?_; rintro e w2 ⟨rfl, hb2⟩))
    go_ret
    exact ⟨by simp, (((Below.refl _ w).onA _).on hb1).on hb2⟩
  | false =>
    go_enter Try.func19, Try.ntmps19
    go_wp2_with (first
      | (go_at_call 31; refine (H1.out _).mono ?_; rintro e w1 ⟨rfl, hb1⟩
         obtain ⟨b1, b2, b3⟩ := (B1.out _ _).below hb1))
    go_ret
    exact ⟨by simp, ((Below.refl _ w).onA _).on hb1⟩

set_option maxHeartbeats 2000000 in
theorem nMay_up {lo hi : Nat} {w : World} {p q r s : Value} {ps : List Pe} {is : List Int} {ts : List It} {ls : List Te} (i : Int) (h : NdAt lo hi w p q r s ps is ts ls) (hh : hi ≤ w.heap.size) :
    Calls Try.prog 19 #[.agg #[.bool true, .int .i64 i, p, q, r, s]] w fun e w' => e = .returned (.bool (ndB ⟨true, i, ps, is, ts, ls⟩)) ∧ Below w.heap.size w w' := by
  rw [ndB_up]
  have H1 := toHid (fun o : Obj => vMay_any i (h.vw.alloc o) (Nat.le_trans hh (by simp)))
  have H2 := toHid (fun (o : Obj) (W : World) (hb : Below (w.alloc o).heap.size (w.alloc o) W) => sMay_any ((h.alloc o).below hb (Nat.le_trans hh (by simp))).ts (Nat.le_trans (Nat.le_trans hh (by simp)) hb.size))
  have H3 := toHid (fun (o : Obj) (W : World) (hb : Below (w.alloc o).heap.size (w.alloc o) W) => nLog_any ((h.alloc o).below hb (Nat.le_trans hh (by simp))).ls (Nat.le_trans (Nat.le_trans hh (by simp)) hb.size))
  obtain ⟨a, c, a', c', a2, c2, a3, c3, rfl, rfl, rfl, rfl⟩ := h.shape
  have B1 := toHid (fun (cs : Array Value) (t : TypeId) => Box.new w cs t)
  generalize vwB i ps is = r1 at *
  generalize stB ts = r2 at *
  generalize lgB ls = r3 at *
  clear h
  cases r1 with
  | true =>
    cases r2 with
    | true =>
      go_enter Try.func19, Try.ntmps19
      go_wp2_with (first
        | (go_at_call 31; refine (H1.out _).mono ?_; rintro e w1 ⟨rfl, hb1⟩
           obtain ⟨b1, b2, b3⟩ := (B1.out _ _).below hb1)
        | (go_at_call 33; refine (H2.out _ _ hb1).mono ?_; rintro e w2 ⟨rfl, hb2⟩
           replace hb2 := hb1.on hb2
           clear hb1 b1 b2 b3
           obtain ⟨b1, b2, b3⟩ := (B1.out _ _).below hb2)
        | (go_at_call 34; refine (H3.out _ _ hb2).mono ?_; rintro e w3 ⟨rfl, hb3⟩))
      go_ret
      exact ⟨by simp, (((Below.refl _ w).onA _).on hb2).on hb3⟩
    | false =>
      go_enter Try.func19, Try.ntmps19
      go_wp2_with (first
        | (go_at_call 31; refine (H1.out _).mono ?_; rintro e w1 ⟨rfl, hb1⟩
           obtain ⟨b1, b2, b3⟩ := (B1.out _ _).below hb1)
        | (go_at_call 33; refine (H2.out _ _ hb1).mono ?_; rintro e w2 ⟨rfl, hb2⟩
           replace hb2 := hb1.on hb2
           clear hb1 b1 b2 b3
           obtain ⟨b1, b2, b3⟩ := (B1.out _ _).below hb2))
      go_ret
      exact ⟨by simp, ((Below.refl _ w).onA _).on hb2⟩
  | false =>
    go_enter Try.func19, Try.ntmps19
    go_wp2_with (first
      | (go_at_call 31; refine (H1.out _).mono ?_; rintro e w1 ⟨rfl, hb1⟩
         obtain ⟨b1, b2, b3⟩ := (B1.out _ _).below hb1))
    go_ret
    exact ⟨by simp, ((Below.refl _ w).onA _).on hb1⟩

theorem nMay_any {lo hi : Nat} {w : World} {p q r s : Value} {ps : List Pe} {is : List Int} {ts : List It} {ls : List Te} (up : Bool) (i : Int) (h : NdAt lo hi w p q r s ps is ts ls) (hh : hi ≤ w.heap.size) :
    Calls Try.prog 19 #[.agg #[.bool up, .int .i64 i, p, q, r, s]] w fun e w' => e = .returned (.bool (ndB ⟨up, i, ps, is, ts, ls⟩)) ∧ Below w.heap.size w w' := by
  cases up with
  | false => exact nMay_down i h hh
  | true => exact nMay_up i h hh
/-! ### A new one -/
end Go.Proofs.Ytghamcomjfholaa
