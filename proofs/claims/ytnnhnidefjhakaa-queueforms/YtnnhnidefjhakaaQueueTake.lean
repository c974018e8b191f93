
/-
  Contracts of the document's own answers on queues: one taken.
-/
import Derived.Test.YtnnhnidefjhakaaQueueRef
import Derived.Test.YtnnhnidefjhakaaMsgsApp
import Derived.Deep.DeepCutAuto
import Derived.Deep.CutRange
import Derived.Deep.CutBlock
namespace Go.Proofs.Ytnnhnidefjhakaa
open Go.ChangeShapes Go.WideShapes Go.ChangeAt Go.RowKit

set_option maxHeartbeats 4000000 in
theorem rTakeQueue_no {lo hi : Nat} {w : World} {v : Value} {ms : List Mg} (h : RowM lo hi w v ms) (hh : hi ≤ w.heap.size) (i : Int) (ht : tkB ms i = false) :
    Calls Try.prog 12 #[v, .int .i64 i] w fun e w' => e = .returned (.tuple #[.agg #[.int .i64 0, .int .i64 0, .int .i64 0, .slice none 0 0, .int .i64 0, .int .i64 0, .int .i64 0, .int .i64 0, .int .i64 0, .bool false, .bool false], .slice none 0 0, .int .i64 1400]) ∧ Below w.heap.size w w' := by
  have Z := (fun o : Obj => h.alloc o)
  have R0 := rQueueMay_any (Z (.cells #[.int .i64 0, .int .i64 0, .int .i64 0, .slice none 0 0, .int .i64 0, .int .i64 0, .int .i64 0, .int .i64 0, .int .i64 0, .bool false, .bool false] 29)) (Nat.le_trans hh (by simp))
  obtain ⟨p, c, rfl, hn, -⟩ := h.at
  have BZ := toHid (Box.new w #[.int .i64 0, .int .i64 0, .int .i64 0, .slice none 0 0, .int .i64 0, .int .i64 0, .int .i64 0, .int .i64 0, .int .i64 0, .bool false, .bool false] 29)
  clear h Z
  have key : quB ms = false ∨ (quB ms = true ∧ i < 0) ∨ (quB ms = true ∧ ¬ i < 0 ∧ (ms.length : Int) ≤ i) := by
    cases hq : quB ms with
    | false => exact .inl rfl
    | true =>
      right
      simp only [tkB, hq, Bool.true_and, decide_eq_false_iff_not] at ht
      by_cases h0 : i < 0
      · exact .inl ⟨rfl, h0⟩
      · exact .inr ⟨rfl, h0, by omega⟩
  clear ht
  rcases key with hq | ⟨hq, h0⟩ | ⟨hq, h0, h1⟩
  all_goals
    rw [hq] at R0
    replace R0 := toHid R0
    clear hq
    go_enter Try.func12, Try.ntmps12
    go_wp2_with (first
      | (go_at_call 17; refine R0.out.mono ?_; rintro e w1 ⟨rfl, h1⟩
         have B1 := BZ.out.below h1
         obtain ⟨x1, x2, x3⟩ := id B1))
    have S := B1.set11 (.int .i64 0) (.int .i64 0) (.int .i64 0) (.slice none 0 0) (.int .i64 0) (.int .i64 0) (.int .i64 0) (.int .i64 0) (.int .i64 0) (.bool false) (.bool false)
    refine bodyPost_ret (v := .tuple #[.agg #[.int .i64 0, .int .i64 0, .int .i64 0, .slice none 0 0, .int .i64 0, .int .i64 0, .int .i64 0, .int .i64 0, .int .i64 0, .bool false, .bool false], .slice none 0 0, .int .i64 1400]) (by simp [results, Try.results12, go_sem, x2]) rfl ?_
    exact ⟨rfl, (((Below.refl _ w).onA _).on h1).trans S.2.below⟩

theorem mg_of {x : MgO} {m : Mg} (h : x.mg = m) : ∃ y, x = ⟨m.n, m.a, m.b, m.is, m.k, m.t, m.h, y⟩ := by
  subst h
  exact ⟨x.v, rfl⟩

set_option maxHeartbeats 8000000 in
theorem rTakeQueue_yes {lo hi : Nat} {w : World} {v : Value} {ms : List Mg} (h : RowM lo hi w v ms) (hh : hi ≤ w.heap.size) (j : Nat) (hq : quB ms = true) (hj : j < ms.length) :
    Calls Try.prog 12 #[v, .int .i64 j] w fun e w' => ∃ p c v', e = .returned (.tuple #[.agg #[.int .i64 ms[j].n, .int .i64 ms[j].a, .int .i64 ms[j].b, .slice p ms[j].is.length c, .int .i64 ms[j].k, .int .i64 ms[j].t.k, .int .i64 ms[j].t.c, .int .i64 ms[j].t.u, .int .i64 ms[j].t.x, .bool ms[j].t.g, .bool ms[j].h], v', .int .i64 0]) ∧
      w'.ownsRow w.heap.size 3 1 (.slice p ms[j].is.length c) ms[j].is.length (ms[j].is.map (Value.int .i64)) ∧ OwnM w.heap.size w' v' (ms.take j ++ ms.drop (j + 1)) ∧ Below w.heap.size w w' := by
  have h512 := qu_len hq
  have hids : ∀ m ∈ ms, m.is.length ≤ 16 := fun m hm => may_ids (qu_mem hq m hm)
  have Z := (fun o : Obj => h.alloc o)
  have R0 := rQueueMay_any (Z (.cells #[.int .i64 0, .int .i64 0, .int .i64 0, .slice none 0 0, .int .i64 0, .int .i64 0, .int .i64 0, .int .i64 0, .int .i64 0, .bool false, .bool false] 29)) (Nat.le_trans hh (by simp))
  rw [hq] at R0
  replace R0 := toHid R0
  have RV := toHid (fun (wr : World) (hk : Below (w.alloc (.cells #[.int .i64 0, .int .i64 0, .int .i64 0, .slice none 0 0, .int .i64 0, .int .i64 0, .int .i64 0, .int .i64 0, .int .i64 0, .bool false, .bool false] 29)).heap.size (w.alloc (.cells #[.int .i64 0, .int .i64 0, .int .i64 0, .slice none 0 0, .int .i64 0, .int .i64 0, .int .i64 0, .int .i64 0, .int .i64 0, .bool false, .bool false] 29)) wr) => (Z (.cells #[.int .i64 0, .int .i64 0, .int .i64 0, .slice none 0 0, .int .i64 0, .int .i64 0, .int .i64 0, .int .i64 0, .int .i64 0, .bool false, .bool false] 29)).below hk (Nat.le_trans hh (by simp)))
  obtain ⟨p, c, rfl, hn, -⟩ := h.at
  have BZ := toHid (Box.new w #[.int .i64 0, .int .i64 0, .int .i64 0, .slice none 0 0, .int .i64 0, .int .i64 0, .int .i64 0, .int .i64 0, .int .i64 0, .bool false, .bool false] 29)
  have hB := toHid ((Below.refl _ w).onA (.cells #[.int .i64 0, .int .i64 0, .int .i64 0, .slice none 0 0, .int .i64 0, .int .i64 0, .int .i64 0, .int .i64 0, .int .i64 0, .bool false, .bool false] 29))
  have hz : w.heap.size ≤ (w.alloc (.cells #[.int .i64 0, .int .i64 0, .int .i64 0, .slice none 0 0, .int .i64 0, .int .i64 0, .int .i64 0, .int .i64 0, .int .i64 0, .bool false, .bool false] 29)).heap.size := by simp
  clear h Z hq
  obtain ⟨⟨n, a, b, is, k, ⟨tk, tc, tu, tx, tg⟩, g⟩, hM⟩ : ∃ M, ms[j] = M := ⟨_, rfl⟩
  rw [hM]
  have j0 : 0 ≤ (j : Int) := by omega
  have j0' : ¬ (j : Int) < 0 := by omega
  have j1 : (j : Int) < (ms.length : Int) := by omega
  have j1' : ¬ (ms.length : Int) ≤ (j : Int) := by omega
  have jw : IntKind.i64.wrap ((j : Int) + 1) = (j : Int) + 1 := by rw [IntKind.wrap_i64]; omega
  go_enter Try.func12, Try.ntmps12
  go_upto_region 4 with (first
    | (go_at_call 17; refine R0.out.mono ?_; rintro e w1 ⟨rfl, h1⟩)
    | (go_at_call 25; refine (rCopyMsgs_any (RV.out _ h1) (Nat.le_trans hh (Nat.le_trans hz h1.size)) (by omega) (fun m hm => by have := hids m hm; omega)).mono ?_
       rintro e w3 ⟨v3, rfl, O3, h3⟩
       have z3 : w.heap.size ≤ w3.heap.size := Nat.le_trans hz (Nat.le_trans h1.size h3.size)
       obtain ⟨g3, c3, xs, e3, hc3, hg0, hg1, em, cc, oi⟩ := O3.at (by omega)
       subst e3))
  replace BZ := toHid ((BZ.out.below h1).below h3)
  replace hB := toHid ((hB.out.on h1).on h3)
  have zb : w.heap.size < w1.heap.size := Nat.lt_of_lt_of_le (by simp) h1.size
  have z1 := h3.size
  have hx : j < xs.length := by rw [← em] at hj; simpa using hj
  have hxl : xs.length = ms.length := by rw [← em]; simp
  have hXj : xs[j].mg = ms[j] := by
    have : (xs.map MgO.mg)[j]'(by simpa using hx) = ms[j] := by simp only [em]
    simpa using this
  obtain ⟨y, hxx⟩ := mg_of (hXj.trans hM)
  have oy := oi _ (List.getElem_mem hx)
  rw [hxx] at oy
  dsimp only at hxx
  obtain ⟨p5, c5, e5⟩ := own_slice oy
  dsimp only at e5 oy
  subst e5
  have ff : ∀ q, q < 11 → w3.cell? ⟨g3, j * 11 + q, none⟩ = (MvV ⟨n, a, b, is, k, ⟨tk, tc, tu, tx, tg⟩, g, .slice p5 is.length c5⟩)[q]? := fun q hq => by
    rw [cc (j * 11 + q) (by omega), flat_at MvV_len xs j q hx hq, hxx]
  have f0 := ff 0 (by decide)
  have f1 := ff 1 (by decide)
  have f2 := ff 2 (by decide)
  have f3 := ff 3 (by decide)
  have f4 := ff 4 (by decide)
  have f5 := ff 5 (by decide)
  have f6 := ff 6 (by decide)
  have f7 := ff 7 (by decide)
  have f8 := ff 8 (by decide)
  have f9 := ff 9 (by decide)
  have f10 := ff 10 (by decide)
  simp [MvV] at f0 f1 f2 f3 f4 f5 f6 f7 f8 f9 f10
  have hc4 : (j : Int) < (c3 : Int) := by omega
  have hc5 : (j : Int) ≤ (c3 : Int) := by omega
  have hc6 : (j : Int) + 1 ≤ (c3 : Int) := by omega
  have hc7 : (j : Int) + 1 ≤ (ms.length : Int) := by omega
  have hc8 : (ms.length : Int) ≤ (c3 : Int) := by omega
  have hjn : 0 ≤ (j : Int) + 1 := by omega
  replace cc := toHid cc
  replace oi := toHid oi
  replace oy := toHid oy
  replace em := toHid em
  clear hXj
  replace hxx := toHid hxx
  replace hxl := toHid hxl
  clear RV R0 h1 h3 O3 ff hids
  go_upto_region 5 with (fail)
  have BV := toHid (Box.new w3 #[.int .i64 n, .int .i64 a, .int .i64 b, .slice p5 is.length c5, .int .i64 k, .int .i64 tk, .int .i64 tc, .int .i64 tu, .int .i64 tx, .bool tg, .bool g] 29)
  have hk4 := toHid ((Below.refl _ w3).onA (.cells #[.int .i64 n, .int .i64 a, .int .i64 b, .slice p5 is.length c5, .int .i64 k, .int .i64 tk, .int .i64 tc, .int .i64 tu, .int .i64 tx, .bool tg, .bool g] 29))
  have hs4 : (w3.alloc (.cells #[.int .i64 n, .int .i64 a, .int .i64 b, .slice p5 is.length c5, .int .i64 k, .int .i64 tk, .int .i64 tc, .int .i64 tu, .int .i64 tx, .bool tg, .bool g] 29)).heap.size = w3.heap.size + 1 := by simp
  generalize w3.alloc (.cells #[.int .i64 n, .int .i64 a, .int .i64 b, .slice p5 is.length c5, .int .i64 k, .int .i64 tk, .int .i64 tc, .int .i64 tu, .int .i64 tx, .bool tg, .bool g] 29) = w4 at BV hk4 hs4 ⊢
  clear f0 f1 f2 f3 f4 f5 f6 f7 f8 f9 f10
  go_wp2_with (first
    | (at_builtin; refine app_msgs2 rfl (.tmp 30) (.tmp 33) rfl w1.heap.size (.slice (some ⟨w3.heap.size + 1, 0, none⟩) 0 0) [] rfl ⟨[], rfl, lit_at (by omega) hs4.symm, nofun⟩ ⟨g3, 0, none⟩ j c3 (xs.take j) rfl (by have := hxl.out; simp; omega) (fun q hq => ?_) (fun y hy => ?_) (by simp; omega) (by simp; omega) ?_
       · (rw [add_plain, Nat.zero_add]; exact (((hk4.out.onA _).cell (p := ⟨g3, q, none⟩) hg1).trans (cc.out q (by omega))).trans (flat_take MvV_len xs j q (by have := hxl.out; omega) hq).symm)
       · (exact ownsRow_below (oi.out y (List.mem_of_mem_take hy)) (hk4.out.onA _))))
  intro v5 w5 O5 hg5 _ hp5
  have hk5 := toHid ((hk4.out.onA (.cells #[] 29)).grown hg5 (by simp; omega) (fun q hq => by simp [Value.ownBlock] at hq; omega))
  have hv5 : Hid (∀ q, v5.ownBlock = some q → w3.heap.size + 1 ≤ q) := toHid (by
    intro q hq
    rcases hp5 with e | ⟨g5, e, l⟩
    · rw [e] at hq
      simp [Value.ownBlock] at hq
      omega
    · rw [e] at hq
      simp at hq l
      omega)
  have BV5 := toHid ((BV.out.alloc (.cells #[] 29)).grownO hg5 (by simp [Value.ownBlock]))
  rw [em.out] at O5
  replace O5 := toHid O5
  clear hg5 hp5 BV
  go_upto_region 6 with (fail)
  by_cases hcap : c3 = j + 1
  · have hcap' : (c3 : Int) = (j : Int) + 1 := by omega
    have hms : ms.length = j + 1 := by omega
    replace hms := toHid hms
    replace hcap := toHid hcap
    go_wp2_with (first
      | (at_builtin; refine app_msgs2 rfl (.tmp 35) (.tmp 39) rfl w1.heap.size _ (ms.take j) rfl O5.out _ _ _ (xs.drop (j + 1)) rfl (by have := hxl.out; have := hms.out; have := hcap.out; simp; omega) (fun q hq => ?_) (fun y hy => ?_) (by have := hms.out; have := hcap.out; simp; omega) (by have := hk5.out.size; omega) ?_
         · ((have := hms.out; have := hcap.out; omega))
         · (exact ownsRow_below (oi.out y (List.mem_of_mem_drop hy)) hk5.out)))
    intro v6 w6 O6 hg6 _ _
    have O6' : OwnM w1.heap.size w6 v6 (ms.take j ++ ms.drop (j + 1)) := by
      have e := em.out
      rw [← e]
      rw [← e] at O6
      simpa using O6
    have hk6 := toHid (hk5.out.grown hg6 hk5.out.size (fun q hq => Nat.le_of_succ_le (hv5.out q hq)))
    have BV6 := BV5.out.grownO hg6 (fun e => absurd (hv5.out _ e) (by omega))
    have BZ6 := BZ.out.below hk6.out
    have oy6 := ownsRow_below oy.out hk6.out
    obtain ⟨b1, b2, b3⟩ := id BV6
    obtain ⟨z1', z2', z3'⟩ := id BZ6
    have S := toHid (BZ6.set11 (.int .i64 n) (.int .i64 a) (.int .i64 b) (.slice p5 is.length c5) (.int .i64 k) (.int .i64 tk) (.int .i64 tc) (.int .i64 tu) (.int .i64 tx) (.bool tg) (.bool g))
    have zz : w3.heap.size ≠ w.heap.size := by omega
    replace O6' := toHid O6'
    replace oy6 := toHid oy6
    clear hg6 O6 O5 BV6 BZ6
    go_wp2
    refine bodyPost_ret (v := .tuple #[.agg #[.int .i64 n, .int .i64 a, .int .i64 b, .slice p5 is.length c5, .int .i64 k, .int .i64 tk, .int .i64 tc, .int .i64 tu, .int .i64 tx, .bool tg, .bool g], v6, .int .i64 0]) (by simp [results, Try.results12, go_sem, z2']) rfl ?_
    refine ⟨p5, c5, v6, rfl, ?_, ?_, ((hB.out.on hk6.out).trans S.out.2.below)⟩
    · refine own_low (base := w1.heap.size) ?_ (by omega)
      repeat refine ownsRow_setCell_below ?_ (by simp <;> omega) _
      exact oy6.out
    · refine OwnM.low (base := w1.heap.size) ?_ (by omega)
      repeat refine OwnM.setLow ?_ (by omega) _ _
      exact O6'.out
  · have hcap' : ¬ (c3 : Int) = (j : Int) + 1 := by omega
    have hcap2 : ¬ (j : Int) + 1 = (c3 : Int) := by omega
    have hcap3 : ¬ j + 1 = c3 := by omega
    go_wp2_with (first
      | (at_builtin; refine app_msgs2 rfl (.tmp 35) (.tmp 39) rfl w1.heap.size _ (ms.take j) rfl O5.out _ _ _ (xs.drop (j + 1)) rfl (by have := hxl.out; simp; omega) (fun q hq => ?_) (fun y hy => ?_) (by simp; omega) (by have := hk5.out.size; omega) ?_
         · (rw [add_plain, flat_drop MvV_len xs (j + 1) q (by have := hxl.out; omega)]; exact (hk5.out.cell (p := ⟨g3, (j + 1) * 11 + q, none⟩) hg1).trans (cc.out _ (by omega)))
         · (exact ownsRow_below (oi.out y (List.mem_of_mem_drop hy)) hk5.out)))
    intro v6 w6 O6 hg6 _ _
    have O6' : OwnM w1.heap.size w6 v6 (ms.take j ++ ms.drop (j + 1)) := by
      have e := em.out
      rw [← e]
      rw [← e] at O6
      simpa using O6
    have hk6 := toHid (hk5.out.grown hg6 hk5.out.size (fun q hq => Nat.le_of_succ_le (hv5.out q hq)))
    have BV6 := BV5.out.grownO hg6 (fun e => absurd (hv5.out _ e) (by omega))
    have BZ6 := BZ.out.below hk6.out
    have oy6 := ownsRow_below oy.out hk6.out
    obtain ⟨b1, b2, b3⟩ := id BV6
    obtain ⟨z1', z2', z3'⟩ := id BZ6
    have S := toHid (BZ6.set11 (.int .i64 n) (.int .i64 a) (.int .i64 b) (.slice p5 is.length c5) (.int .i64 k) (.int .i64 tk) (.int .i64 tc) (.int .i64 tu) (.int .i64 tx) (.bool tg) (.bool g))
    have zz : w3.heap.size ≠ w.heap.size := by omega
    replace O6' := toHid O6'
    replace oy6 := toHid oy6
    clear hg6 O6 O5 BV6 BZ6
    go_wp2
    refine bodyPost_ret (v := .tuple #[.agg #[.int .i64 n, .int .i64 a, .int .i64 b, .slice p5 is.length c5, .int .i64 k, .int .i64 tk, .int .i64 tc, .int .i64 tu, .int .i64 tx, .bool tg, .bool g], v6, .int .i64 0]) (by simp [results, Try.results12, go_sem, z2']) rfl ?_
    refine ⟨p5, c5, v6, rfl, ?_, ?_, ((hB.out.on hk6.out).trans S.out.2.below)⟩
    · refine own_low (base := w1.heap.size) ?_ (by omega)
      repeat refine ownsRow_setCell_below ?_ (by simp <;> omega) _
      exact oy6.out
    · refine OwnM.low (base := w1.heap.size) ?_ (by omega)
      repeat refine OwnM.setLow ?_ (by omega) _ _
      exact O6'.out

end Go.Proofs.Ytnnhnidefjhakaa
