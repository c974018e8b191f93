
/-
  Contracts of package queue: one taken.
-/
import Derived.Test.YtnnhnidefjhakaaQueueB
import Derived.Test.YtnnhnidefjhakaaQueueTake
namespace Go.Proofs.Ytnnhnidefjhakaa
open Go.ChangeShapes Go.WideShapes Go.ChangeAt Go.RowKit

theorem RowM.take {lo hi : Nat} {w : World} {p : Option Addr} {L cap : Nat} {ms : List Mg} (h : RowM lo hi w (.slice p L cap) ms) (m : Nat) (hm : m ≤ ms.length) : RowM lo hi w (.slice p m cap) (ms.take m) := by
  obtain ⟨xs, e, ⟨p', cap', ev, hl, hc, hx⟩, f⟩ := h
  cases ev
  have hxl : xs.length = ms.length := by rw [← e]; simp
  have hlen : (xs.take m).length = m := by rw [List.length_take]; omega
  refine ⟨xs.take m, by rw [List.map_take, e], ⟨p, cap, by rw [hlen], ⟨by omega, hl.2⟩, hc, fun hne => ?_⟩, fun x hx => f x (List.mem_of_mem_take hx)⟩
  obtain ⟨b, off, rfl, h1, h2, h3⟩ := hx (by intro e; rw [e] at hne; exact hne (by simp))
  refine ⟨b, off, rfl, h1, h2, fun j hj => ?_⟩
  rw [hlen] at hj
  rw [flat_take MvV_len xs m j (by omega) hj]
  exact h3 j (by have := Nat.mul_le_mul_right 11 (show m ≤ xs.length by omega); omega)
theorem RowM.drop {lo hi : Nat} {w : World} {b off L cap : Nat} {ms : List Mg} (h : RowM lo hi w (.slice (some ⟨b, off, none⟩) L cap) ms) (m : Nat) (hm : m < ms.length) : RowM lo hi w (.slice (some ⟨b, off + m * 11, none⟩) (ms.length - m) (cap - m)) (ms.drop m) := by
  obtain ⟨xs, e, ⟨p', cap', ev, hl, hc, hx⟩, f⟩ := h
  cases ev
  have hxl : xs.length = ms.length := by rw [← e]; simp
  have hlen : (xs.drop m).length = xs.length - m := List.length_drop
  refine ⟨xs.drop m, by rw [List.map_drop, e], ⟨_, cap - m, by rw [hlen, hxl], ⟨by omega, fun h => by cases h⟩, by omega, fun hne => ?_⟩, fun x hx => f x (List.mem_of_mem_drop hx)⟩
  obtain ⟨b', off', e', h1, h2, h3⟩ := hx (by intro e; rw [e] at hxl; simp at hxl; omega)
  cases e'
  refine ⟨b, off + m * 11, rfl, h1, h2, fun j hj => ?_⟩
  rw [hlen, Nat.sub_mul] at hj
  rw [flat_drop MvV_len xs m j (by omega), Nat.add_assoc]
  exact h3 _ (by omega)
theorem RowM.nilAt {lo hi : Nat} {w : World} {p : Option Addr} {L cap : Nat} (hL : L = 0) (hc : cap ≤ maxLen) (hp : p = none → cap = 0) : RowM lo hi w (.slice p L cap) [] := hL ▸ ⟨[], rfl, RowC.nil hc hp, fun x hx => by cases hx⟩

set_option maxHeartbeats 4000000 in
theorem qTake_no {lo hi : Nat} {w : World} {v : Value} {ms : List Mg} (h : RowM lo hi w v ms) (hh : hi ≤ w.heap.size) (i : Int) (ht : tkB ms i = false) :
    Calls Try.prog 11 #[v, .int .i64 i] w fun e w' => e = .returned (.tuple #[.agg #[.int .i64 0, .int .i64 0, .int .i64 0, .slice none 0 0, .int .i64 0, .int .i64 0, .int .i64 0, .int .i64 0, .int .i64 0, .bool false, .bool false], .slice none 0 0, .int .i64 1400]) ∧ Below w.heap.size w w' := by
  have Z := (fun o : Obj => h.alloc o)
  have R0 := qMay_any (Z (.cells #[.int .i64 0, .int .i64 0, .int .i64 0, .slice none 0 0, .int .i64 0, .int .i64 0, .int .i64 0, .int .i64 0, .int .i64 0, .bool false, .bool false] 29)) (Nat.le_trans hh (by simp))
  obtain ⟨p, c, rfl, hn, -⟩ := h.at
  have BZ := toHid (Box.new w #[.int .i64 0, .int .i64 0, .int .i64 0, .slice none 0 0, .int .i64 0, .int .i64 0, .int .i64 0, .int .i64 0, .int .i64 0, .bool false, .bool false] 29)
  clear h Z
  have key : quB ms = false ∨ (quB ms = true ∧ i < 0) ∨ (quB ms = true ∧ ¬ i < 0 ∧ (ms.length : Int) ≤ i) := by
    cases hq : quB ms with
    | false => exact .inl rfl
    | true =>
      right
      simp only [tkB, hq, Bool.true_and, decide_eq_false_iff_not] at ht
      by_cases h0 : i < 0
      · exact .inl ⟨rfl, h0⟩
      · exact .inr ⟨rfl, h0, by omega⟩
  clear ht
  rcases key with hq | ⟨hq, h0⟩ | ⟨hq, h0, h1⟩
  all_goals
    rw [hq] at R0
    replace R0 := toHid R0
    clear hq
    go_enter Try.func11, Try.ntmps11
    go_wp2_with (first
      | (go_at_call 16; refine R0.out.mono ?_; rintro e w1 ⟨rfl, h1⟩
         have B1 := BZ.out.below h1
         obtain ⟨x1, x2, x3⟩ := id B1))
    have S := B1.set11 (.int .i64 0) (.int .i64 0) (.int .i64 0) (.slice none 0 0) (.int .i64 0) (.int .i64 0) (.int .i64 0) (.int .i64 0) (.int .i64 0) (.bool false) (.bool false)
    refine bodyPost_ret (v := .tuple #[.agg #[.int .i64 0, .int .i64 0, .int .i64 0, .slice none 0 0, .int .i64 0, .int .i64 0, .int .i64 0, .int .i64 0, .int .i64 0, .bool false, .bool false], .slice none 0 0, .int .i64 1400]) (by simp [results, Try.results11, go_sem, x2]) rfl ?_
    exact ⟨rfl, (((Below.refl _ w).onA _).on h1).trans S.2.below⟩

set_option maxHeartbeats 8000000 in
theorem qTake_yes {lo hi : Nat} {w : World} {v : Value} {ms : List Mg} (h : RowM lo hi w v ms) (hh : hi ≤ w.heap.size) (j : Nat) (hq : quB ms = true) (hj : j < ms.length) :
    Calls Try.prog 11 #[v, .int .i64 j] w fun e w' => ∃ p c v', e = .returned (.tuple #[.agg #[.int .i64 ms[j].n, .int .i64 ms[j].a, .int .i64 ms[j].b, .slice p ms[j].is.length c, .int .i64 ms[j].k, .int .i64 ms[j].t.k, .int .i64 ms[j].t.c, .int .i64 ms[j].t.u, .int .i64 ms[j].t.x, .bool ms[j].t.g, .bool ms[j].h], v', .int .i64 0]) ∧
      w'.ownsRow w.heap.size 3 1 (.slice p ms[j].is.length c) ms[j].is.length (ms[j].is.map (Value.int .i64)) ∧ OwnM w.heap.size w' v' (ms.take j ++ ms.drop (j + 1)) ∧ Below w.heap.size w w' := by
  obtain ⟨i0, hi0, hz0, hz1, hz2⟩ := info_parts Try.infoMsg
  have h512 := qu_len hq
  have hids : ∀ m ∈ ms, m.is.length ≤ 16 := fun m hm => may_ids (qu_mem hq m hm)
  have hz : (w.alloc (.cells #[.int .i64 0, .int .i64 0, .int .i64 0, .slice none 0 0, .int .i64 0, .int .i64 0, .int .i64 0, .int .i64 0, .int .i64 0, .bool false, .bool false] 29)).heap.size = w.heap.size + 1 := by simp
  have Z := h.alloc (.cells #[.int .i64 0, .int .i64 0, .int .i64 0, .slice none 0 0, .int .i64 0, .int .i64 0, .int .i64 0, .int .i64 0, .int .i64 0, .bool false, .bool false] 29)
  have hB := toHid ((Below.refl _ w).onA (.cells #[.int .i64 0, .int .i64 0, .int .i64 0, .slice none 0 0, .int .i64 0, .int .i64 0, .int .i64 0, .int .i64 0, .int .i64 0, .bool false, .bool false] 29))
  have BZ := toHid (Box.new w #[.int .i64 0, .int .i64 0, .int .i64 0, .slice none 0 0, .int .i64 0, .int .i64 0, .int .i64 0, .int .i64 0, .int .i64 0, .bool false, .bool false] 29)
  obtain ⟨p, c, rfl, hn, hx⟩ := h.at
  obtain ⟨b0, off, rfl, -, -, -⟩ := hx (by omega)
  have hc : ms.length ≤ c ∧ c ≤ 9223372036854775807 := by
    obtain ⟨xs, e, ⟨p', cap', ev, hl, hc, -⟩, -⟩ := h
    simp only [Value.slice.injEq] at ev
    obtain ⟨-, -, rfl⟩ := ev
    unfold maxLen at hc
    have := hl.1
    have e2 : xs.length = ms.length := by rw [← e]; simp
    omega
  obtain ⟨hc1, hc2⟩ := hc
  clear h hx
  have R0 := qMay_any Z (by omega)
  rw [hq] at R0
  replace R0 := toHid R0
  have RV := toHid (fun (wr : World) (hk : Below (w.alloc (.cells #[.int .i64 0, .int .i64 0, .int .i64 0, .slice none 0 0, .int .i64 0, .int .i64 0, .int .i64 0, .int .i64 0, .int .i64 0, .bool false, .bool false] 29)).heap.size (w.alloc (.cells #[.int .i64 0, .int .i64 0, .int .i64 0, .slice none 0 0, .int .i64 0, .int .i64 0, .int .i64 0, .int .i64 0, .int .i64 0, .bool false, .bool false] 29)) wr) => Z.below hk (by omega))
  clear Z hq
  obtain ⟨M, hM⟩ : ∃ M, ms[j] = M := ⟨_, rfl⟩
  obtain ⟨n, a, b, is, k, ⟨tk, tc, tu, tx, tg⟩, g⟩ := M
  rw [hM]
  have his : is.length ≤ 16 := by
    have := hids _ (List.getElem_mem hj)
    rw [hM] at this
    exact this
  replace hids := toHid hids
  have j0 : 0 ≤ (j : Int) := by omega
  have j0' : ¬ (j : Int) < 0 := by omega
  have j1 : (j : Int) < (ms.length : Int) := by omega
  have j1' : ¬ (ms.length : Int) ≤ (j : Int) := by omega
  have jw : IntKind.i64.wrap ((j : Int) + 1) = (j : Int) + 1 := by rw [IntKind.wrap_i64]; omega
  have hc4 : (j : Int) < (c : Int) := by omega
  have hc5 : (j : Int) ≤ (c : Int) := by omega
  have hc6 : (j : Int) + 1 ≤ (c : Int) := by omega
  have hc7 : (j : Int) + 1 ≤ (ms.length : Int) := by omega
  have hc8 : (ms.length : Int) ≤ (c : Int) := by omega
  have hjn : 0 ≤ (j : Int) + 1 := by omega
  have lw : ((ms.length : Int) - 1) = ((ms.length - 1 : Nat) : Int) := by omega
  have htj : Hid ((ms.take j).length = j) := toHid (by simp; omega)
  go_enter Try.func11, Try.ntmps11
  go_wp2_with (first
    | (go_at_call 16; refine R0.out.mono ?_; rintro e w1 ⟨rfl, h1⟩)
    | (at_make; refine wpList_make_own _ rfl _ _ 22 rfl (w.heap.size + 1) 29 i0 _ 11 Try.underlying22 hi0 hz0 hz1 _ _ _ (ms.length - 1) rfl rfl (by first | omega | (simp; omega)) (by rw [hz2]; omega) (by unfold maxLen; omega) (by have := h1.size; omega) ?_))
  intro w3 own3 hg3
  have k3 := toHid (h1.grown hg3 h1.size (fun j hj => by cases hj))
  have O3 : Hid (OwnM (w.heap.size + 1) w3 (.slice (some ⟨w1.heap.size, 0, none⟩) 0 (ms.length - 1)) []) := toHid ⟨[], rfl, by simpa using own3, nofun⟩
  clear own3 hg3 h1 R0 lw
  have z3 : w.heap.size + 1 ≤ w3.heap.size := by have := k3.out.size; omega
  go_upto_region 5 with (first
    | (go_at_call 22
       refine (qCopies_any O3.out ((RV.out _ k3.out).take j (by omega)) (by omega) z3 (by simp; omega) (fun m hm => by have := hids.out m (List.mem_of_mem_take hm); omega)).mono ?_
       rintro e w4 ⟨v4, rfl, O4, h4⟩
       rw [List.nil_append] at O4
       replace O4 := toHid O4
       obtain ⟨q4, c4, e4⟩ := O4.out.cap
       rw [htj.out] at e4
       subst e4
       have k4 := toHid (k3.out.trans (h4.mono (by omega)))
       have z4 : w.heap.size + 1 ≤ w4.heap.size := by have := k4.out.size; omega
       clear O3 k3 h4))
  have key : (c = j + 1 ∧ ms.length = j + 1) ∨ (j + 1 < c ∧ ms.length = j + 1) ∨ (j + 1 < c ∧ j + 1 < ms.length) := by omega
  rcases key with ⟨hA, hE⟩ | ⟨hA, hE⟩ | ⟨hA, hC⟩
  all_goals
    have hA1 := hA
    first
      | (have hcap' : (c : Int) = (j : Int) + 1 := by omega)
      | (have hcap' : ¬ (c : Int) = (j : Int) + 1 := by omega
         have hcap2 : ¬ (j : Int) + 1 = (c : Int) := by omega
         have hcap3 : ¬ j + 1 = c := by omega)
    replace hA := toHid hA
    clear hA1
    first
      | (have HN : Hid (∀ (W : World) (a : Addr), RowM 0 0 W (.slice (some a) (ms.length - (j + 1)) (c - (j + 1))) []) := toHid (fun W a => RowM.nilAt (by omega) (by unfold maxLen; omega) nofun)
         replace hE := toHid hE)
      | replace hC := toHid hC
    go_upto_region 6 with (first
      | (go_at_call 22
         refine (qCopies_any O4.out ((RV.out _ k4.out).drop (j + 1) hC.out) (by omega) z4 (by simp; omega) (fun m hm => by have := hids.out m (List.mem_of_mem_drop hm); omega)).mono ?_
         rintro e w5 ⟨v5, rfl, O5, h5⟩)
      | (go_at_call 22
         refine (qCopies_any O4.out (HN.out _ _) (Nat.zero_le _) z4 (by simp; omega) (fun m hm => by cases hm)).mono ?_
         rintro e w5 ⟨v5, rfl, O5, h5⟩
         rw [show ([] : List Mg) = ms.drop (j + 1) by rw [List.drop_of_length_le (by have := hE.out; omega)]] at O5))
  all_goals
    have k5 := toHid (k4.out.trans (h5.mono (by omega)))
    have z5 : w.heap.size + 1 ≤ w5.heap.size := by have := k5.out.size; omega
    replace O5 := toHid O5
    obtain ⟨q, d, e, -, hx⟩ := (RV.out _ k5.out).at
    cases e
    obtain ⟨bb, off', e, -, hbb, h3⟩ := hx (by omega)
    cases e
    obtain ⟨x, hm, hc⟩ := h3 j hj
    obtain ⟨y, rfl⟩ := mg_of (hm.trans hM)
    have hy := hc.2
    obtain ⟨f0, f1, f2, f3, f4, f5, f6, f7, f8, f9, f10⟩ := hc.cells
    dsimp only at f0 f1 f2 f3 f4 f5 f6 f7 f8 f9 f10 hy
    obtain ⟨q6, d6, e6, -⟩ := hy.cap
    subst e6
    have HC := toHid (qCopied_any hy (by omega) n a b k tk tc tu tx tg g)
    have B5 := toHid (BZ.out.below k5.out)
    clear hx h3 hm hc hy O4 k4 h5
    go_wp2_with (first
      | (go_at_call 23; refine HC.out.mono ?_
         rintro e w6 ⟨p6, c6, rfl, own6, h6⟩
         have O6 := toHid (O5.out.below h6)
         have P6 := toHid (own_low (base' := w.heap.size + 1) own6 (by omega))
         have B6 := B5.out.below h6
         obtain ⟨x1, x2, x3⟩ := id B6
         have k6 := toHid (k5.out.on h6)
         clear f0 f1 f2 f3 f4 f5 f6 f7 f8 f9 f10 O5 own6 h6))
    have S := toHid (B6.set11 (.int .i64 n) (.int .i64 a) (.int .i64 b) (.slice p6 is.length c6) (.int .i64 k) (.int .i64 tk) (.int .i64 tc) (.int .i64 tu) (.int .i64 tx) (.bool tg) (.bool g))
    refine bodyPost_ret (v := .tuple #[.agg #[.int .i64 n, .int .i64 a, .int .i64 b, .slice p6 is.length c6, .int .i64 k, .int .i64 tk, .int .i64 tc, .int .i64 tu, .int .i64 tx, .bool tg, .bool g], v5, .int .i64 0]) (by simp [results, Try.results11, go_sem, x2]) rfl ?_
    refine ⟨p6, c6, v5, rfl, ?_, ?_, ((hB.out.on k6.out).trans S.out.2.below)⟩
    · refine own_low (base := w.heap.size + 1) ?_ (by omega)
      repeat refine ownsRow_setCell_below ?_ (by simp <;> omega) _
      exact P6.out
    · refine OwnM.low (base := w.heap.size + 1) ?_ (by omega)
      repeat refine OwnM.setLow ?_ (by omega) _ _
      exact O6.out

end Go.Proofs.Ytnnhnidefjhakaa
