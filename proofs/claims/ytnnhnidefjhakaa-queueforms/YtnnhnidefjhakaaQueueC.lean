
/-
  Contracts of package queue: one more.
-/
import Derived.Test.YtnnhnidefjhakaaQueueB
namespace Go.Proofs.Ytnnhnidefjhakaa
open Go.ChangeShapes Go.WideShapes Go.ChangeAt Go.RowKit

set_option maxHeartbeats 4000000 in
theorem qAdd_any {lo hi lo' hi' : Nat} {w : World} {v u : Value} {ms : List Mg} {is : List Int} (h : RowM lo hi w v ms) (hh : hi ≤ w.heap.size) (hu : RowI lo' hi' w u is) (hh' : hi' ≤ w.heap.size) (n a b k tk tc tu tx : Int) (tg g : Bool) :
    Calls Try.prog 9 #[v, .agg #[.int .i64 n, .int .i64 a, .int .i64 b, u, .int .i64 k, .int .i64 tk, .int .i64 tc, .int .i64 tu, .int .i64 tx, .bool tg, .bool g]] w fun e w' =>
      ∃ v', e = .returned (.tuple #[v', .int .i64 (adE ms ⟨n, a, b, is, k, ⟨tk, tc, tu, tx, tg⟩, g⟩)]) ∧ OwnM w.heap.size w' v' (adL ms ⟨n, a, b, is, k, ⟨tk, tc, tu, tx, tg⟩, g⟩) ∧ Below w.heap.size w w' := by
  obtain ⟨i0, hi0, hz0, hz1, hz2⟩ := info_parts Try.infoMsg
  have BV := toHid (fun (cs : Array Value) (t : TypeId) => Box.new w cs t)
  have R0 := toHid (fun (o : Obj) (wr : World) (hk : Below (w.alloc o).heap.size (w.alloc o) wr) => (h.alloc o).below hk (Nat.le_trans hh (by simp)))
  have U0 := toHid (fun (o : Obj) (wr : World) (hk : Below (w.alloc o).heap.size (w.alloc o) wr) => (hu.alloc o).below hk (Nat.le_trans hh' (by simp)))
  obtain ⟨p, c, rfl, hn, -⟩ := h.at
  obtain ⟨p', c', rfl, -⟩ := hu.cap
  clear h hu
  replace BV := toHid (BV.out #[.int .i64 n, .int .i64 a, .int .i64 b, .slice p' is.length c', .int .i64 k, .int .i64 tk, .int .i64 tc, .int .i64 tu, .int .i64 tx, .bool tg, .bool g] 29)
  replace R0 := toHid (R0.out (.cells #[.int .i64 n, .int .i64 a, .int .i64 b, .slice p' is.length c', .int .i64 k, .int .i64 tk, .int .i64 tc, .int .i64 tu, .int .i64 tx, .bool tg, .bool g] 29))
  replace U0 := toHid (U0.out (.cells #[.int .i64 n, .int .i64 a, .int .i64 b, .slice p' is.length c', .int .i64 k, .int .i64 tk, .int .i64 tc, .int .i64 tu, .int .i64 tx, .bool tg, .bool g] 29))
  have hB := toHid ((Below.refl _ w).onA (.cells #[.int .i64 n, .int .i64 a, .int .i64 b, .slice p' is.length c', .int .i64 k, .int .i64 tk, .int .i64 tc, .int .i64 tu, .int .i64 tx, .bool tg, .bool g] 29))
  have hz : (w.alloc (.cells #[.int .i64 n, .int .i64 a, .int .i64 b, .slice p' is.length c', .int .i64 k, .int .i64 tk, .int .i64 tc, .int .i64 tu, .int .i64 tx, .bool tg, .bool g] 29)).heap.size = w.heap.size + 1 := by simp
  obtain ⟨r, hr⟩ : ∃ r, mgB n a b is k ⟨tk, tc, tu, tx, tg⟩ g = r := ⟨_, rfl⟩
  have hr2 : mayB ⟨n, a, b, is, k, ⟨tk, tc, tu, tx, tg⟩, g⟩ = r := hr
  cases hq : quB ms with
  | false =>
    have e1 : adE ms ⟨n, a, b, is, k, ⟨tk, tc, tu, tx, tg⟩, g⟩ = 1400 := by simp [adE, hq]
    have e2 : adL ms ⟨n, a, b, is, k, ⟨tk, tc, tu, tx, tg⟩, g⟩ = [] := by simp [adL, e1]
    rw [e1, e2]
    clear e1 e2
    go_enter Try.func9, Try.ntmps9
    go_wp2_with (first
      | (go_at_call 16; refine (qMay_any (R0.out _ (Below.refl _ _)) (by omega)).mono ?_; rintro e w1 ⟨he, h1⟩
         rw [hq] at he
         subst he))
    go_ret2
    exact ⟨_, rfl, OwnM.nil0, hB.out.on h1⟩
  | true =>
    have h512 := qu_len hq
    cases r with
    | false =>
      have e1 : adE ms ⟨n, a, b, is, k, ⟨tk, tc, tu, tx, tg⟩, g⟩ = 1400 := by simp [adE, hr2]
      have e2 : adL ms ⟨n, a, b, is, k, ⟨tk, tc, tu, tx, tg⟩, g⟩ = [] := by simp [adL, e1]
      rw [e1, e2]
      clear e1 e2 hr2
      go_enter Try.func9, Try.ntmps9
      go_wp2_with (first
        | (go_at_call 16; refine (qMay_any (R0.out _ (Below.refl _ _)) (by omega)).mono ?_; rintro e w1 ⟨he, h1⟩
           rw [hq] at he
           subst he
           obtain ⟨d1, d2, d3⟩ := BV.out.below h1)
        | (go_at_call 21; refine (qNot_any (U0.out _ h1) n a b k tk tc tu tx tg g).mono ?_; rintro e w2 ⟨he, h2⟩
           rw [hr] at he
           subst he))
      go_ret2
      exact ⟨_, rfl, OwnM.nil0, (hB.out.on h1).on h2⟩
    | true =>
      have hm16 : is.length ≤ 16 := may_ids hr2
      have hids : ∀ m ∈ ms, m.is.length ≤ 16 := fun m hm => may_ids (qu_mem hq m hm)
      by_cases hf : ms.length = 512
      · have e1 : adE ms ⟨n, a, b, is, k, ⟨tk, tc, tu, tx, tg⟩, g⟩ = 1401 := by simp [adE, hq, hr2, hf]
        have e2 : adL ms ⟨n, a, b, is, k, ⟨tk, tc, tu, tx, tg⟩, g⟩ = [] := by simp [adL, e1]
        rw [e1, e2]
        have hf' : (ms.length : Int) = 512 := by omega
        clear e1 e2 hr2 hids hf
        go_enter Try.func9, Try.ntmps9
        go_wp2_with (first
          | (go_at_call 16; refine (qMay_any (R0.out _ (Below.refl _ _)) (by omega)).mono ?_; rintro e w1 ⟨he, h1⟩
             rw [hq] at he
             subst he
             obtain ⟨d1, d2, d3⟩ := BV.out.below h1)
          | (go_at_call 21; refine (qNot_any (U0.out _ h1) n a b k tk tc tu tx tg g).mono ?_; rintro e w2 ⟨he, h2⟩
             rw [hr] at he
             subst he))
        go_ret2
        exact ⟨_, rfl, OwnM.nil0, (hB.out.on h1).on h2⟩
      · have e1 : adE ms ⟨n, a, b, is, k, ⟨tk, tc, tu, tx, tg⟩, g⟩ = 0 := by simp [adE, hq, hr2, hf]
        have e2 : adL ms ⟨n, a, b, is, k, ⟨tk, tc, tu, tx, tg⟩, g⟩ = ms ++ [⟨n, a, b, is, k, ⟨tk, tc, tu, tx, tg⟩, g⟩] := by simp [adL, e1]
        rw [e1, e2]
        have hf' : ¬ (ms.length : Int) = 512 := by omega
        replace hids := toHid hids
        clear e1 e2 hr2
        have t1 := trivial
        go_enter Try.func9, Try.ntmps9
        go_wp2_with (first
          | (go_at_call 16; refine (qMay_any (R0.out _ (Below.refl _ _)) (by omega)).mono ?_; rintro e w1 ⟨he, h1⟩
             rw [hq] at he
             subst he
             obtain ⟨d1, d2, d3⟩ := BV.out.below h1)
          | (go_at_call 21; refine (qNot_any (U0.out _ h1) n a b k tk tc tu tx tg g).mono ?_; rintro e w2 ⟨he, h2⟩
             rw [hr] at he
             subst he
             have k2 := toHid (h1.on h2)
             clear d1 d2 d3 h1 h2)
          | (at_make; refine wpList_make_own _ rfl _ _ 22 rfl (w.heap.size + 1) 29 i0 _ 11 Try.underlying22 hi0 hz0 hz1 _ _ _ (ms.length + 1) rfl rfl (by simp) (by rw [hz2]; omega) (by unfold maxLen; omega) (by have := k2.out.size; omega) ?_))
        intro w3 own3 hg3
        have k3 := toHid (k2.out.grown hg3 k2.out.size (fun j hj => by cases hj))
        have O3 : Hid (OwnM (w.heap.size + 1) w3 (.slice (some ⟨w2.heap.size, 0, none⟩) 0 (ms.length + 1)) []) := toHid ⟨[], rfl, by simpa using own3, nofun⟩
        clear own3 hg3
        have z3 : w.heap.size + 1 ≤ w3.heap.size := by have := k3.out.size; omega
        go_wp2_with (first
          | (go_at_call 22; clear t1
             refine (qCopies_any O3.out (R0.out _ k3.out) (by omega) z3 (by simp; omega) (fun m hm => by have := hids.out m hm; omega)).mono ?_
             rintro e w4 ⟨v4, rfl, O4, h4⟩
             rw [List.nil_append] at O4
             replace O4 := toHid O4
             obtain ⟨q4, c4, e4⟩ := O4.out.cap
             subst e4
             have k4 := toHid (k3.out.trans (h4.mono (by omega)))
             have z4 : w.heap.size + 1 ≤ w4.heap.size := by have := k4.out.size; omega
             obtain ⟨d1, d2, d3⟩ := BV.out.below k4.out
             clear O3 k3 h4)
          | (go_at_call 23
             refine (qCopied_any (U0.out _ k4.out) (by omega) n a b k tk tc tu tx tg g).mono ?_
             rintro e w5 ⟨p5, c5, rfl, own5, h5⟩
             have O5 := toHid (own_low (base' := w.heap.size + 1) own5 (by omega))
             have k5 := toHid (k4.out.on h5)
             have z5 : w.heap.size + 1 ≤ w5.heap.size := by have := k5.out.size; omega
             have O6 := toHid (O4.out.below h5)
             clear d1 d2 d3 own5 h5 O4)
          | (at_builtin; refine app_msgs rfl (.tmp 24) (.tmp 27) rfl (w.heap.size + 1) _ ms rfl (O6.out.alloc _) ⟨w5.heap.size, 0, none⟩ 1 1 [⟨n, a, b, is, k, ⟨tk, tc, tu, tx, tg⟩, g, .slice p5 is.length c5⟩] rfl rfl (fun j hj => ?_) (fun y hy => ?_) (by omega) (by simp; omega) ?_
             · (rw [add_plain, Nat.zero_add]; exact ((Box.newAt _ _ (by simp)).2.1 j).trans (by simp [MvV]))
             · (obtain rfl := List.mem_singleton.1 hy; exact ownsRow_below O5.out ((Below.refl _ _).onA _))))
        intro v6 w6 P6 hg6 hb6
        have O7 := toHid (P6.low (base' := w.heap.size) (by omega))
        have k7 := toHid ((hB.out.on k5.out).trans (((Below.refl w.heap.size w5).alloc (by omega) _).trans (hb6.mono (by omega))))
        clear P6 hg6 hb6
        go_wp2
        go_ret2
        exact ⟨_, rfl, O7.out, k7.out⟩

end Go.Proofs.Ytnnhnidefjhakaa
