
/-
  Contracts of the document's own answers on queues: one more.
-/
import Derived.Test.YtnnhnidefjhakaaQueueRef
namespace Go.Proofs.Ytnnhnidefjhakaa
open Go.ChangeShapes Go.WideShapes Go.ChangeAt Go.RowKit

theorem map_one {xs : List MgO} {m : Mg} (h : xs.map MgO.mg = [m]) : ∃ x, xs = [x] ∧ x.mg = m := by
  rcases xs with _ | ⟨x, _ | ⟨y, ys⟩⟩
  · cases h
  · exact ⟨x, rfl, by simpa using h⟩
  · cases h

set_option maxHeartbeats 4000000 in
theorem rAddQueue_any {lo hi lo' hi' : Nat} {w : World} {v u : Value} {ms : List Mg} {is : List Int} (h : RowM lo hi w v ms) (hh : hi ≤ w.heap.size) (hu : RowI lo' hi' w u is) (hh' : hi' ≤ w.heap.size) (n a b k tk tc tu tx : Int) (tg g : Bool) :
    Calls Try.prog 10 #[v, .agg #[.int .i64 n, .int .i64 a, .int .i64 b, u, .int .i64 k, .int .i64 tk, .int .i64 tc, .int .i64 tu, .int .i64 tx, .bool tg, .bool g]] w fun e w' =>
      ∃ v', e = .returned (.tuple #[v', .int .i64 (adE ms ⟨n, a, b, is, k, ⟨tk, tc, tu, tx, tg⟩, g⟩)]) ∧ OwnM w.heap.size w' v' (adL ms ⟨n, a, b, is, k, ⟨tk, tc, tu, tx, tg⟩, g⟩) ∧ Below w.heap.size w w' := by
  have BV := toHid (fun (cs : Array Value) (t : TypeId) => Box.new w cs t)
  have R0 := toHid (fun (o : Obj) (wr : World) (hk : Below (w.alloc o).heap.size (w.alloc o) wr) => (h.alloc o).below hk (Nat.le_trans hh (by simp)))
  have U0 := toHid (fun (o : Obj) (wr : World) (hk : Below (w.alloc o).heap.size (w.alloc o) wr) => (hu.alloc o).below hk (Nat.le_trans hh' (by simp)))
  obtain ⟨p, c, rfl, hn, -⟩ := h.at
  obtain ⟨p', c', rfl, -⟩ := hu
  clear h
  replace BV := toHid (BV.out #[.int .i64 n, .int .i64 a, .int .i64 b, .slice p' is.length c', .int .i64 k, .int .i64 tk, .int .i64 tc, .int .i64 tu, .int .i64 tx, .bool tg, .bool g] 29)
  replace R0 := toHid (R0.out (.cells #[.int .i64 n, .int .i64 a, .int .i64 b, .slice p' is.length c', .int .i64 k, .int .i64 tk, .int .i64 tc, .int .i64 tu, .int .i64 tx, .bool tg, .bool g] 29))
  replace U0 := toHid (U0.out (.cells #[.int .i64 n, .int .i64 a, .int .i64 b, .slice p' is.length c', .int .i64 k, .int .i64 tk, .int .i64 tc, .int .i64 tu, .int .i64 tx, .bool tg, .bool g] 29))
  have hB := toHid ((Below.refl _ w).onA (.cells #[.int .i64 n, .int .i64 a, .int .i64 b, .slice p' is.length c', .int .i64 k, .int .i64 tk, .int .i64 tc, .int .i64 tu, .int .i64 tx, .bool tg, .bool g] 29))
  have hz : w.heap.size ≤ (w.alloc (.cells #[.int .i64 n, .int .i64 a, .int .i64 b, .slice p' is.length c', .int .i64 k, .int .i64 tk, .int .i64 tc, .int .i64 tu, .int .i64 tx, .bool tg, .bool g] 29)).heap.size := by simp
  obtain ⟨r, hr⟩ : ∃ r, mgB n a b is k ⟨tk, tc, tu, tx, tg⟩ g = r := ⟨_, rfl⟩
  have hr2 : mayB ⟨n, a, b, is, k, ⟨tk, tc, tu, tx, tg⟩, g⟩ = r := hr
  cases hq : quB ms with
  | false =>
    have e1 : adE ms ⟨n, a, b, is, k, ⟨tk, tc, tu, tx, tg⟩, g⟩ = 1400 := by simp [adE, hq]
    have e2 : adL ms ⟨n, a, b, is, k, ⟨tk, tc, tu, tx, tg⟩, g⟩ = [] := by simp [adL, e1]
    rw [e1, e2]
    clear e1 e2
    go_enter Try.func10, Try.ntmps10
    go_wp2_with (first
      | (go_at_call 17; refine (rQueueMay_any (R0.out _ (Below.refl _ _)) (Nat.le_trans hh hz)).mono ?_; rintro e w1 ⟨he, h1⟩
         rw [hq] at he
         subst he))
    go_ret2
    exact ⟨_, rfl, OwnM.nil0, hB.out.on h1⟩
  | true =>
    have h512 := qu_len hq
    cases r with
    | false =>
      have e1 : adE ms ⟨n, a, b, is, k, ⟨tk, tc, tu, tx, tg⟩, g⟩ = 1400 := by simp [adE, hr2]
      have e2 : adL ms ⟨n, a, b, is, k, ⟨tk, tc, tu, tx, tg⟩, g⟩ = [] := by simp [adL, e1]
      rw [e1, e2]
      clear e1 e2 hr2
      go_enter Try.func10, Try.ntmps10
      go_wp2_with (first
        | (go_at_call 17; refine (rQueueMay_any (R0.out _ (Below.refl _ _)) (Nat.le_trans hh hz)).mono ?_; rintro e w1 ⟨he, h1⟩
           rw [hq] at he
           subst he
           obtain ⟨d1, d2, d3⟩ := BV.out.below h1)
        | (go_at_call 24; refine (rMsgMay_any (U0.out _ h1) n a b k tk tc tu tx tg g).mono ?_; rintro e w2 ⟨he, h2⟩
           rw [hr] at he
           subst he))
      go_ret2
      exact ⟨_, rfl, OwnM.nil0, (hB.out.on h1).on h2⟩
    | true =>
      have hm16 : is.length ≤ 16 := may_ids hr2
      have hids : ∀ m ∈ ms, m.is.length ≤ 16 := fun m hm => may_ids (qu_mem hq m hm)
      by_cases hf : ms.length = 512
      · have e1 : adE ms ⟨n, a, b, is, k, ⟨tk, tc, tu, tx, tg⟩, g⟩ = 1401 := by simp [adE, hq, hr2, hf]
        have e2 : adL ms ⟨n, a, b, is, k, ⟨tk, tc, tu, tx, tg⟩, g⟩ = [] := by simp [adL, e1]
        rw [e1, e2]
        have hf' : (ms.length : Int) = 512 := by omega
        clear e1 e2 hr2 hids hf
        go_enter Try.func10, Try.ntmps10
        go_wp2_with (first
          | (go_at_call 17; refine (rQueueMay_any (R0.out _ (Below.refl _ _)) (Nat.le_trans hh hz)).mono ?_; rintro e w1 ⟨he, h1⟩
             rw [hq] at he
             subst he
             obtain ⟨d1, d2, d3⟩ := BV.out.below h1)
          | (go_at_call 24; refine (rMsgMay_any (U0.out _ h1) n a b k tk tc tu tx tg g).mono ?_; rintro e w2 ⟨he, h2⟩
             rw [hr] at he
             subst he))
        go_ret2
        exact ⟨_, rfl, OwnM.nil0, (hB.out.on h1).on h2⟩
      · have e1 : adE ms ⟨n, a, b, is, k, ⟨tk, tc, tu, tx, tg⟩, g⟩ = 0 := by simp [adE, hq, hr2, hf]
        have e2 : adL ms ⟨n, a, b, is, k, ⟨tk, tc, tu, tx, tg⟩, g⟩ = ms ++ [⟨n, a, b, is, k, ⟨tk, tc, tu, tx, tg⟩, g⟩] := by simp [adL, e1]
        rw [e1, e2]
        have hf' : ¬ (ms.length : Int) = 512 := by omega
        replace hids := toHid hids
        replace h512 := toHid h512
        clear e1 e2 hr2
        go_enter Try.func10, Try.ntmps10
        have t1 := trivial
        go_wp2_with (first
          | (go_at_call 17; refine (rQueueMay_any (R0.out _ (Below.refl _ _)) (Nat.le_trans hh hz)).mono ?_; rintro e w1 ⟨he, h1⟩
             rw [hq] at he
             subst he
             obtain ⟨d1, d2, d3⟩ := BV.out.below h1)
          | (go_at_call 24; refine (rMsgMay_any (U0.out _ h1) n a b k tk tc tu tx tg g).mono ?_; rintro e w2 ⟨he, h2⟩
             rw [hr] at he
             subst he
             clear d1 d2 d3
             have k2 := h1.on h2
             obtain ⟨d1, d2, d3⟩ := BV.out.below k2
             replace k2 := toHid k2
             clear h1 h2)
          | (go_at_call 25; clear t1
             refine (rCopyMsgs_any (RowM.lit1 ⟨n, a, b, is, k, ⟨tk, tc, tu, tx, tg⟩, g, .slice p' is.length c'⟩ rfl (U0.out _ k2.out) rfl) ?_ (by simp) (fun m hm => ?_)).mono ?_
             · (have := k2.out.size; simp at this ⊢; omega)
             · (obtain rfl := List.mem_singleton.1 hm; show is.length * 8 ≤ _; omega)
             rintro e w3 ⟨v3, rfl, O3, h3⟩
             clear d1 d2 d3
             have k3 := toHid ((k2.out.onA _).on h3)
             have O3' := toHid (O3.low (base' := w.heap.size) (by have := k2.out.size; simp at this ⊢; omega))
             have z3 : w.heap.size ≤ w3.heap.size := Nat.le_trans hz k3.out.size
             clear O3 h3)
          | (go_at_call 25
             refine (rCopyMsgs_any (R0.out _ k3.out) (Nat.le_trans hh z3) (by have := h512.out; omega) (fun m hm => by have := hids.out m hm; omega)).mono ?_
             rintro e w4 ⟨v4, rfl, O4, h4⟩
             have O4' := toHid (O4.low (base' := w.heap.size) z3)
             have k4 := toHid (k3.out.on h4)
             have z4 : w.heap.size ≤ w4.heap.size := Nat.le_trans z3 h4.size
             obtain ⟨g3, c3, xs, e3, hc3, -, lg, em, cc, oi⟩ := (O3'.out.below h4).at (by simp)
             subst e3
             obtain ⟨⟨n3, a3, b3, is3, k3', ⟨tk3, tc3, tu3, tx3, tg3⟩, g3', y3⟩, rfl, em⟩ := map_one em
             replace em := toHid em
             have oy := oi _ (List.mem_singleton.2 rfl)
             obtain ⟨p5, c5, e5⟩ := own_slice oy
             dsimp only at e5 oy
             subst e5
             have f0 := cc 0 (by simp)
             have f1 := cc 1 (by simp)
             have f2 := cc 2 (by simp)
             have f3 := cc 3 (by simp)
             have f4 := cc 4 (by simp)
             have f5 := cc 5 (by simp)
             have f6 := cc 6 (by simp)
             have f7 := cc 7 (by simp)
             have f8 := cc 8 (by simp)
             have f9 := cc 9 (by simp)
             have f10 := cc 10 (by simp)
             simp [MvV] at f0 f1 f2 f3 f4 f5 f6 f7 f8 f9 f10
             replace oy := toHid oy
             clear O4 h4 cc oi)
          | (at_builtin; refine app_msgs rfl (.tmp 24) (.tmp 28) rfl w.heap.size _ ms rfl (O4'.out.alloc _) ⟨w4.heap.size, 0, none⟩ 1 1 [⟨n3, a3, b3, is3, k3', ⟨tk3, tc3, tu3, tx3, tg3⟩, g3', .slice p5 is3.length c5⟩] rfl rfl (fun j hj => ?_) (fun y hy => ?_) (by have := h512.out; omega) (by simp; omega) ?_
             · (rw [add_plain, Nat.zero_add]; exact ((Box.newAt _ _ (by simp)).2.1 j).trans (by simp [MvV]))
             · (obtain rfl := List.mem_singleton.1 hy; exact ownsRow_below oy.out ((Below.refl _ _).onA _))))
        intro v6 w6 O6 hg6 hb6
        replace O6 := toHid O6
        have k6 := toHid ((((hB.out.on k4.out).alloc (by simpa using z4) _)).trans hb6)
        clear hg6 hb6 f0 f1 f2 f3 f4 f5 f6 f7 f8 f9 f10
        go_wp2
        go_ret2
        exact ⟨_, rfl, by first | exact O6.out | exact em.out ▸ O6.out, k6.out⟩

end Go.Proofs.Ytnnhnidefjhakaa
