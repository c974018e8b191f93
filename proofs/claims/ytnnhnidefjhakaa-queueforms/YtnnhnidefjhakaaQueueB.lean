
/-
  Contracts of package queue: which messages may not be; where the first one is; which queues may be.
-/
import Derived.Test.YtnnhnidefjhakaaQueueA
import Derived.Test.YtnnhnidefjhakaaQueueMath
import Derived.Test.YtnnhnidefjhakaaMsgB
namespace Go.Proofs.Ytnnhnidefjhakaa
open Go.ChangeShapes Go.WideShapes Go.ChangeAt Go.RowKit

theorem qNot_any {lo hi : Nat} {w : World} {v : Value} {is : List Int} (hv : RowI lo hi w v is) (n a b k tk tc tu tx : Int) (tg h : Bool) :
    Calls Try.prog 21 #[.agg #[.int .i64 n, .int .i64 a, .int .i64 b, v, .int .i64 k, .int .i64 tk, .int .i64 tc, .int .i64 tu, .int .i64 tx, .bool tg, .bool h]] w fun e w' =>
      e = .returned (.bool (!mgB n a b is k ⟨tk, tc, tu, tx, tg⟩ h)) ∧ Below w.heap.size w w' := by
  have H := fun o : Obj => mMay_any (hv.alloc o) n a b k tk tc tu tx tg h
  obtain ⟨p, c, rfl, -⟩ := hv.cap
  obtain ⟨r, hr⟩ : ∃ r, mgB n a b is k ⟨tk, tc, tu, tx, tg⟩ h = r := ⟨_, rfl⟩
  rw [hr]
  simp only [hr] at H
  replace H := toHid H
  clear hr hv
  go_enter Try.func21, Try.ntmps21
  go_wp2_with (go_at_call 28; refine (H.out _).mono ?_; rintro e w5 ⟨rfl, h5⟩)
  go_ret
  exact ⟨by simp, ((Below.refl _ w).onA _).on h5⟩

set_option maxHeartbeats 4000000 in
theorem qIndex_any {lo hi : Nat} {w : World} {v : Value} {ms : List Mg} (h : RowM lo hi w v ms) (hh : hi ≤ w.heap.size) :
    Calls Try.prog 32 #[v, .func (.func 21) #[] #[]] w fun e w' => ∃ r : Int, e = .returned (.int .i64 r) ∧ (ms.all mayB = true → r = -1) ∧ (ms.all mayB = false → 0 ≤ r) ∧ Below w.heap.size w w' := by
  have R0 := toHid (fun (wr : World) (hk : Below w.heap.size w wr) => h.below hk hh)
  obtain ⟨p, c, rfl, hn, -⟩ := h.at
  obtain ⟨R, hR⟩ : ∃ R, ms.all mayB = R := ⟨_, rfl⟩
  rw [hR]
  replace hR := toHid hR
  clear h
  go_enter Try.func32, Try.ntmps32
  go_wp2
  go_loopw [8] (fun s8 wr => ∃ i : Nat, i ≤ ms.length ∧ s8 = .int .i64 i ∧ (ms.take i).all mayB = true ∧ Below w.heap.size w wr) (fun s8 _ => ms.length - (intOf s8).toNat)
  case atStart => exact ⟨0, Nat.zero_le _, rfl, rfl, Below.refl _ w⟩
  case round =>
    obtain ⟨i, hi, rfl, ha, hk⟩ := hrel
    by_cases hlt : i < ms.length
    · obtain ⟨q, d, e, -, hx⟩ := (R0.out _ hk).at
      cases e
      obtain ⟨bb, off, rfl, -, hbb, h3⟩ := hx (by omega)
      obtain ⟨⟨n, a, b, is, k, ⟨tk, tc, tu, tx, tg⟩, g, y⟩, hm, hc⟩ := h3 i hlt
      have hy := hc.2
      obtain ⟨c0, c1, c2, c3, c4, c5, c6, c7, c8, c9, c10⟩ := hc.cells
      dsimp only at c0 c1 c2 c3 c4 c5 c6 c7 c8 c9 c10 hy
      have hlt' : (i : Int) < (ms.length : Int) := by omega
      have hi0 : 0 ≤ (i : Int) := by omega
      have HM := qNot_any hy n a b k tk tc tu tx tg g
      obtain ⟨q2, d2, e6, -⟩ := hy.cap
      subst e6
      obtain ⟨r, hr⟩ : ∃ r, mgB n a b is k ⟨tk, tc, tu, tx, tg⟩ g = r := ⟨_, rfl⟩
      rw [hr] at HM
      have hr2 : mayB ms[i] = r := by rw [← hm]; exact hr
      have hrs : Hid ((ms.take (i + 1)).all mayB = r) := toHid (by
        rw [List.take_add_one, List.getElem?_eq_getElem hlt, List.all_append, ha]
        simp [hr2])
      have hrf : Hid (r = false → R = false) := toHid (fun e => by
        rw [← hR.out]
        cases hq : ms.all mayB with
        | false => rfl
        | true =>
          have := List.all_eq_true.1 hq _ (List.getElem_mem hlt)
          rw [hr2, e] at this
          cases this)
      replace HM := toHid HM
      replace hk := toHid hk
      replace ha := toHid ha
      clear h3 hx hc hm hy hr hr2
      cases r with
      | true =>
        go_wp2_with (go_at_call 21; refine HM.out.mono ?_; rintro e w5 ⟨rfl, h5⟩)
        go_roundw
        case rel => exact ⟨i + 1, by omega, by go_num, hrs.out, hk.out.on h5⟩
        case measure => simp [intOf]; omega
      | false =>
        go_wp2_with (go_at_call 21; refine HM.out.mono ?_; rintro e w5 ⟨rfl, h5⟩)
        go_ret
        have e0 := hrf.out (by trivial)
        exact ⟨(i : Int), rfl, fun e => (by rw [e0] at e; cases e), fun _ => hi0, hk.out.on h5⟩
    · obtain rfl : i = ms.length := by omega
      rw [List.take_length] at ha
      have hRt : Hid (R = true) := toHid (by rw [← hR.out]; exact ha)
      replace hk := toHid hk
      clear ha
      go_wp2
      go_ret
      exact ⟨-1, rfl, fun _ => rfl, fun e => (by rw [hRt.out] at e; cases e), hk.out⟩

theorem qContains_any {lo hi : Nat} {w : World} {v : Value} {ms : List Mg} (h : RowM lo hi w v ms) (hh : hi ≤ w.heap.size) :
    Calls Try.prog 27 #[v, .func (.func 21) #[] #[]] w fun e w' => e = .returned (.bool (!ms.all mayB)) ∧ Below w.heap.size w w' := by
  have H := qIndex_any h hh
  obtain ⟨p, c, rfl, hn, -⟩ := h.at
  clear h
  cases hR : ms.all mayB with
  | true =>
    rw [hR] at H
    replace H := toHid H
    clear hR
    go_enter Try.func27, Try.ntmps27
    go_wp2_with (go_at_call 32; refine H.out.mono ?_; rintro e w5 ⟨r, rfl, h1, -, h5⟩
                 obtain rfl := h1 rfl)
    go_ret
    exact ⟨rfl, h5⟩
  | false =>
    rw [hR] at H
    replace H := toHid H
    clear hR
    go_enter Try.func27, Try.ntmps27
    go_wp2_with (go_at_call 32; refine H.out.mono ?_; rintro e w5 ⟨r, rfl, -, h1, h5⟩
                 have hr0 := h1 rfl
                 have hr1 : decide (0 ≤ r) = true := decide_eq_true hr0)
    go_ret
    exact ⟨by simp, h5⟩

theorem qMay_any {lo hi : Nat} {w : World} {v : Value} {ms : List Mg} (h : RowM lo hi w v ms) (hh : hi ≤ w.heap.size) :
    Calls Try.prog 16 #[v] w fun e w' => e = .returned (.bool (quB ms)) ∧ Below w.heap.size w w' := by
  have H := qContains_any h hh
  obtain ⟨p, c, rfl, hn, -⟩ := h.at
  clear h
  by_cases h5 : ms.length ≤ 512
  · have e : quB ms = ms.all mayB := by simp [quB, h5]
    rw [e]
    have h5' : (ms.length : Int) ≤ 512 := by omega
    obtain ⟨r, hr⟩ : ∃ r, ms.all mayB = r := ⟨_, rfl⟩
    rw [hr] at H ⊢
    replace H := toHid H
    clear e hr
    go_enter Try.func16, Try.ntmps16
    go_wp2_with (go_at_call 27; refine H.out.mono ?_; rintro e w5 ⟨rfl, h5⟩)
    go_ret
    exact ⟨by simp, h5⟩
  · have e : quB ms = false := by simp [quB, h5]
    rw [e]
    have h5' : ¬ (ms.length : Int) ≤ 512 := by omega
    have h6 : decide ((ms.length : Int) ≤ 512) = false := decide_eq_false h5'
    clear e H
    go_enter Try.func16, Try.ntmps16
    go_wp2
    go_ret
    exact ⟨rfl, Below.refl _ w⟩

theorem qMay_is {lo hi : Nat} {w : World} {v : Value} {ms : List Mg} {r : Bool} (h : RowM lo hi w v ms) (hh : hi ≤ w.heap.size) (hr : quB ms = r) :
    Calls Try.prog 16 #[v] w fun e w' => e = .returned (.bool r) ∧ Below w.heap.size w w' := hr ▸ qMay_any h hh

end Go.Proofs.Ytnnhnidefjhakaa
