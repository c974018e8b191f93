
/-
  The statement QueueRow, for all messages and any place: what is added one by one comes in its row, and what is taken from any place leaves the others in theirs.
-/
import Derived.Test.YtnnhnidefjhakaaRows
import Derived.Test.YtnnhnidefjhakaaOpen
import Derived.Test.YtnnhnidefjhakaaQueueAw
import Derived.Test.YtnnhnidefjhakaaOpenMs
import Derived.Deep.DeepCutAuto
import Derived.Deep.CutRange
import Derived.Deep.CutBlock
namespace Go.Proofs.Ytnnhnidefjhakaa.queueRow
open Go.ChangeShapes Go.WideShapes Go.ChangeAt Go.RowKit
set_option linter.unusedVariables false

/-! ### The walk -/
theorem row_left {xs : List Mg} {N k t : Nat} (hN : N ≤ xs.length) (hk : k < N) (ht : t < N - 1) : ∃ (h1 : t < ((xs.take N).take k ++ (xs.take N).drop (k + 1)).length) (h2 : (if t < k then t else t + 1) < xs.length), ((xs.take N).take k ++ (xs.take N).drop (k + 1))[t] = xs[if t < k then t else t + 1] := by
  have l1 : (xs.take N).length = N := by simp; omega
  have l2 : ((xs.take N).take k).length = k := by simp; omega
  refine ⟨by simp; omega, by split <;> omega, ?_⟩
  by_cases h : t < k
  · rw [List.getElem_append_left (by omega)]
    simp [h]
  · rw [List.getElem_append_right (by omega)]
    simp only [h, if_false, List.getElem_drop, List.getElem_take, l2]
    congr 1
    omega

set_option maxHeartbeats 8000000 in
theorem walk (v0 : Value) (x0 : List Mg) (a1 : Int) (w : World) (r0 : RowM 0 w.heap.size w v0 x0) (s0 : x0.length * 104 ≤ 140737488351232) (u0 : ∀ m ∈ x0, m.is.length * 8 ≤ 140737488351232) (w1 : (Lit.int .i64 a1).wf = true) :
    Calls Try.prog 5 #[v0, .int .i64 a1] w fun e w' => e = .returned (.bool true) ∧ Below w.heap.size w w' := by
  obtain ⟨p0, c0, e0, hn0, -⟩ := r0.at
  subst e0
  have R0 := toHid (fun (W : World) (hk : Below w.heap.size w W) => r0.below hk (Nat.le_refl _))
  clear r0 w1 u0
  go_enter Try.func5, Try.ntmps5
  go_wp2_with (first | (go_at_call 20; refine (awake14_any _).mono ?_; rintro e wA ⟨rfl, hA⟩))
  go_loopw [5, 6] (fun s5 s6 wr => ∃ i : Nat, i ≤ x0.length ∧ i ≤ 20 ∧ s6 = .int .i64 i ∧ (∀ m ∈ x0.take i, mayB m = true) ∧ RowM 0 wr.heap.size wr s5 (x0.take i) ∧ Below w.heap.size w wr) (fun _ s6 _ => 20 - (intOf s6).toNat)
  case atStart => exact ⟨0, Nat.zero_le _, Nat.zero_le _, rfl, by simp, RowM.nil0, hA⟩
  case round =>
    clear hA
    obtain ⟨i, hi, h20, rfl, hm, RQ, hk⟩ := hrel
    have htl : (x0.take i).length = i := by simp; omega
    obtain ⟨pq, cq, eq, -, -⟩ := RQ.at
    rw [htl] at eq
    subst eq
    have hqB : quB (x0.take i) = true := by
      simp only [quB, Bool.and_eq_true, List.all_eq_true, decide_eq_true_eq]
      exact ⟨hm, by omega⟩
    have hsz := hk.size
    by_cases hlt : i < x0.length ∧ i < 20
    · obtain ⟨hl1, hl2⟩ := hlt
      obtain ⟨q, d, e, -, hx⟩ := (R0.out _ hk).at
      cases e
      obtain ⟨bb, off, rfl, -, hbb, h3⟩ := hx (by omega)
      obtain ⟨⟨n, a, b, is, k, ⟨tk, tc, tu, tx, tg⟩, g, y⟩, hx0, hc⟩ := h3 i hl1
      have hy := hc.2
      obtain ⟨f0, f1, f2, f3, f4, f5, f6, f7, f8, f9, f10⟩ := hc.cells
      dsimp only at f0 f1 f2 f3 f4 f5 f6 f7 f8 f9 f10 hy
      obtain ⟨q2, d2, e6, -⟩ := hy.cap
      subst e6
      have hlt' : (i : Int) < (x0.length : Int) := by omega
      have hlt2 : (i : Int) < 20 := by omega
      have hi0 : 0 ≤ (i : Int) := by omega
      have hx1 : x0[i] = ⟨n, a, b, is, k, ⟨tk, tc, tu, tx, tg⟩, g⟩ := hx0.symm
      cases hr : mayB ⟨n, a, b, is, k, ⟨tk, tc, tu, tx, tg⟩, g⟩ with
      | true =>
        have hE : adE (x0.take i) ⟨n, a, b, is, k, ⟨tk, tc, tu, tx, tg⟩, g⟩ = 0 := by
          have : ¬ (x0.take i).length = 512 := by omega
          simp only [adE, hqB, hr, Bool.true_and, if_true, if_neg this]
        have hL : adL (x0.take i) ⟨n, a, b, is, k, ⟨tk, tc, tu, tx, tg⟩, g⟩ = x0.take (i + 1) := by
          rw [adL, if_pos hE, List.take_add_one, List.getElem?_eq_getElem hl1, hx1]
          rfl
        have HA := toHid (qAdd_at RQ (Nat.le_refl _) hy (by omega) n a b k tk tc tu tx tg g hE hL)
        have hm2 : Hid (∀ m ∈ x0.take (i + 1), mayB m = true) := toHid (by
          rw [List.take_add_one, List.getElem?_eq_getElem hl1, hx1]
          intro m hm3
          rcases List.mem_append.1 hm3 with h | h
          · exact hm m h
          · have : m = ⟨n, a, b, is, k, ⟨tk, tc, tu, tx, tg⟩, g⟩ := by simpa using h
            rw [this]
            exact hr)
        replace hk := toHid hk
        clear hE hL hm hqB RQ hx h3 hx0 hc hy hx1 hr
        go_wp2_with (first
          | (go_at_call 9; refine HA.out.mono ?_; rintro e w2 ⟨va, rfl, O2, h2⟩
             have RA := toHid (O2.row.wide (Nat.zero_le _) (Nat.le_refl _))
             replace hk := toHid (hk.out.on h2)
             clear f0 f1 f2 f3 f4 f5 f6 f7 f8 f9 f10 O2 h2)
          | (go_at_call 14; refine (num_any _ _).mono ?_; rintro e w9 ⟨rfl, hw9⟩; subst w9))
        go_roundw
        case rel => exact ⟨i + 1, by omega, by omega, by go_num, hm2.out, RA.out, hk.out⟩
        case measure => simp [intOf]; omega
      | false =>
        have hE : adE (x0.take i) ⟨n, a, b, is, k, ⟨tk, tc, tu, tx, tg⟩, g⟩ = 1400 := by
          simp only [adE, hr, Bool.and_false]
          rfl
        have hL : adL (x0.take i) ⟨n, a, b, is, k, ⟨tk, tc, tu, tx, tg⟩, g⟩ = [] := by
          rw [adL, hE]
          rfl
        have HA := toHid (qAdd_at RQ (Nat.le_refl _) hy (by omega) n a b k tk tc tu tx tg g hE hL)
        have hqF : Hid (quB x0 = false) := toHid (by
          cases hq : quB x0 with
          | false => rfl
          | true =>
            have := qu_mem hq _ (List.getElem_mem hl1)
            rw [hx1, hr] at this
            cases this)
        replace hk := toHid hk
        clear hE hL hm hqB RQ hx h3 hx0 hc hy hx1 hr
        go_wp2_with (first
          | (go_at_call 9; refine HA.out.mono ?_; rintro e w2 ⟨va, rfl, O2, h2⟩
             obtain ⟨pa, ca, ea⟩ : ∃ p c, va = .slice p 0 c := O2.cap
             subst ea
             replace hk := toHid (hk.out.on h2)
             clear f0 f1 f2 f3 f4 f5 f6 f7 f8 f9 f10 O2 h2)
          | (go_at_call 16; refine (qMay_is (R0.out _ hk.out) hk.out.size hqF.out).mono ?_; rintro e w3 ⟨rfl, h3⟩)
          | (go_at_call 14; refine (num_any _ _).mono ?_; rintro e w9 ⟨rfl, hw9⟩; subst w9))
        go_ret
        exact ⟨rfl, hk.out.on h3⟩
    · by_cases h0 : i = 0
      · subst h0
        have hx0 : x0.length = 0 := by omega
        have hx1 : (x0.length : Int) = 0 := by omega
        replace hk := toHid hk
        clear hm RQ hqB htl
        go_wp2
        go_ret
        exact ⟨rfl, hk.out⟩
      · have hex : ((i : Int) < (x0.length : Int) ∧ ¬ (i : Int) < 20) ∨ ¬ (i : Int) < (x0.length : Int) := by omega
        have h0' : ¬ (i : Int) = 0 := by omega
        have hle : ¬ (x0.length : Int) < (i : Int) := by omega
        have hle2 : (i : Int) ≤ (x0.length : Int) := by omega
        obtain ⟨r, hr⟩ : ∃ r, r = (a1 % 18446744073709551616).toNat % i := ⟨_, rfl⟩
        have hr1 : r < i := by rw [hr]; exact Nat.mod_lt _ (by omega)
        have e1 := rem_u64 a1 i r hr
        have e2 : (IntKind.u64.wrap a1) % (i : Int) = (r : Int) := by rwa [Int.tmod_eq_emod_of_nonneg (u64_nonneg a1)] at e1
        have ri : (r : Int) < (i : Int) := by omega
        have r0' : 0 ≤ (r : Int) := by omega
        have ri2 : (r : Int) < (x0.length : Int) := by omega
        have hrx : r < x0.length := by omega
        replace hr := toHid hr
        have hj : r < (x0.take i).length := by omega
        obtain ⟨⟨n, a, b, is, k, ⟨tk, tc, tu, tx, tg⟩, g⟩, hM⟩ : ∃ M, x0[r] = M := ⟨_, rfl⟩
        have hxr : (x0.take i)[r] = ⟨n, a, b, is, k, ⟨tk, tc, tu, tx, tg⟩, g⟩ := by rw [List.getElem_take, hM]
        have htk : tkB (x0.take i) r = true := by
          simp only [tkB, hqB, Bool.true_and, decide_eq_true_eq]
          omega
        have t1 : tqM (x0.take i) r = ⟨n, a, b, is, k, ⟨tk, tc, tu, tx, tg⟩, g⟩ := by
          rw [tqM, if_pos htk, ← hxr]
          simp [List.getD, List.getElem?_eq_getElem hj]
        have t2 : tqE (x0.take i) r = 0 := by rw [tqE, if_pos htk]
        obtain ⟨L, hL⟩ : ∃ L, (x0.take i).take r ++ (x0.take i).drop (r + 1) = L := ⟨_, rfl⟩
        have t3 : tqL (x0.take i) r = L := by rw [tqL, if_pos htk, ← hL]; rfl
        have hLl : L.length = i - 1 := by rw [← hL]; simp; omega
        have hLl2 : (L.length : Int) = (i : Int) - 1 := by omega
        have hLt : Hid (∀ t, t < i - 1 → ∃ (h1 : t < L.length) (h2 : (if t < r then t else t + 1) < x0.length), L[t] = x0[if t < r then t else t + 1]) := toHid (fun t ht => by
          subst hL
          exact row_left hi hr1 ht)
        have HT := toHid (qTake_any RQ (Nat.le_refl _) r t1 t3 t2)
        replace hLl := toHid hLl
        replace hk := toHid hk
        replace hM := toHid hM
        clear hm hqB htl hxr htk t1 t2 t3 RQ hL hj
        rcases hex with ⟨hx1, hx2⟩ | hx1
        all_goals
          go_upto_region 15 with (first
            | (go_at_call 11; refine HT.out.mono ?_; rintro e w5 ⟨p5, c5, v5, rfl, own5, O5, h5⟩
               obtain ⟨pL, cL, eL⟩ := O5.cap
               subst eL
               have hb5 := (Below.refl _ w5).onA (.cells #[.int .i64 n, .int .i64 a, .int .i64 b, .slice p5 is.length c5, .int .i64 k, .int .i64 tk, .int .i64 tc, .int .i64 tu, .int .i64 tx, .bool tg, .bool g] 29)
               have BP := toHid (Box.new w5 #[.int .i64 n, .int .i64 a, .int .i64 b, .slice p5 is.length c5, .int .i64 k, .int .i64 tk, .int .i64 tc, .int .i64 tu, .int .i64 tx, .bool tg, .bool g] 29)
               have RP := toHid (((RowI.of_owns own5).wide (Nat.zero_le _) (Nat.le_refl _)).fwd hb5)
               have RL := toHid ((O5.row.wide (Nat.zero_le _) (Nat.le_refl _)).fwd hb5)
               replace hk := toHid ((hk.out.on h5).on hb5)
               clear own5 O5 h5 hb5))
          generalize w5.alloc (.cells #[.int .i64 n, .int .i64 a, .int .i64 b, .slice p5 is.length c5, .int .i64 k, .int .i64 tk, .int .i64 tc, .int .i64 tu, .int .i64 tx, .bool tg, .bool g] 29) = wP at BP RP RL hk ⊢
          generalize w5.heap.size = bp at BP ⊢
          have zP := hk.out.size
          obtain ⟨q, d, e, -, hx⟩ := (R0.out _ hk.out).at
          cases e
          obtain ⟨bb, off, e, -, hbb, h3⟩ := hx (by omega)
          subst e
          obtain ⟨x, hm, hc⟩ := h3 r hrx
          obtain ⟨y, rfl⟩ := mg_of (hm.trans hM.out)
          have hy := hc.2
          obtain ⟨f0, f1, f2, f3, f4, f5, f6, f7, f8, f9, f10⟩ := hc.cells
          dsimp only at f0 f1 f2 f3 f4 f5 f6 f7 f8 f9 f10 hy
          obtain ⟨q2, d2, e6, -⟩ := hy.cap
          subst e6
          obtain ⟨m1, m2, m3⟩ := BP.out
          have HS := toHid (fun (W : World) (hb : Below wP.heap.size wP W) => sameMsg_same (RP.out.below hb (Nat.le_refl _)) (hy.below hb (by omega)) n a b k tk tc tu tx tg g)
          have hbb1 : bb < wP.heap.size := by omega
          clear hx h3 hm hc hy HT
          have hw1 : IntKind.i64.wrap ((i : Int) - 1) = (i : Int) - 1 := by rw [IntKind.wrap_i64]; omega
          have hw2 : ((i : Int) - 1 != (i : Int) - 1) = false := by simp
          refine wp_region_below (by kernel_rfl) (by kernel_rfl) ?_
          repeat (first
            | go_big_quiet_skip
            | (go_big_quiet_want; go_big_quiet_op; go_big_quiet_on)
            | (refine wpQuiet_step (fun K hK => ?_)
               go_simp
               first
                 | (refine hK _ ?_; clear hK K)
                 | (refine ⟨_, fun w' hw' => rfl, hK _ ?_⟩; clear hK K)
                 | (apply Exists.intro
                    refine ⟨fun w' hw' => ?_, hK _ ?_⟩
                    · (obtain ⟨hc', hf'⟩ := bcell hw'
                       first
                         | (go_simp; rfl)
                         | (go_at_call 14; refine (num_any _ _).mono ?_; rintro e w9 ⟨rfl, hw9⟩; subst w9; exact ⟨rfl, hw'⟩)
                         | (go_at_call 15; refine (HS.out _ hw').mono ?_; rintro e w9 ⟨rfl, h9⟩; exact ⟨rfl, hw'.on h9⟩))
                    clear hK K)))
          refine wpQuiet_nil ?_
          intro wc hc0
          clear hw1 hw2 f0 f1 f2 f3 f4 f5 f6 f7 f8 f9 f10 m1 m2 m3 HS BP RP hx1
          replace hk := toHid (hk.out.on hc0)
          replace RL := toHid (RL.out.fwd hc0)
          clear hc0 hM
          go_wp2
          go_loopw [13] (fun s13 wr => ∃ t : Nat, t ≤ i - 1 ∧ s13 = .int .i64 t ∧ Below wc.heap.size wc wr) (fun s13 _ => (i - 1) - (intOf s13).toNat)
          case atStart => exact ⟨0, Nat.zero_le _, rfl, Below.refl _ _⟩
          case round =>
            obtain ⟨t, ht, rfl, hk2⟩ := hrel
            by_cases hlt3 : t < i - 1
            · obtain ⟨l1, l2, l3⟩ := hLt.out t hlt3
              obtain ⟨qL, dL, eL, -, hxL⟩ := (RL.out.fwd hk2).at
              cases eL
              obtain ⟨bL, oL, e, -, hbL, h3L⟩ := hxL (by omega)
              subst e
              obtain ⟨⟨n', a', b', is', k', ⟨tk', tc', tu', tx', tg'⟩, g', y'⟩, hmL, hcL⟩ := h3L t l1
              have hyL := hcL.2
              obtain ⟨f0, f1, f2, f3, f4, f5, f6, f7, f8, f9, f10⟩ := hcL.cells
              dsimp only at f0 f1 f2 f3 f4 f5 f6 f7 f8 f9 f10 hyL
              obtain ⟨q3, d3, e6, -⟩ := hyL.cap
              subst e6
              have hk3 := hk.out.on hk2
              obtain ⟨q, d, e, -, hx⟩ := (R0.out _ hk3).at
              cases e
              obtain ⟨b2, o2, e, -, hb2, h3⟩ := hx (by omega)
              cases e
              obtain ⟨x, hm, hc⟩ := h3 _ l2
              obtain ⟨y, rfl⟩ := mg_of (hm.trans (l3.symm.trans hmL.symm))
              have hy := hc.2
              obtain ⟨m0, m1, m2, m3, m4, m5, m6, m7, m8, m9, m10⟩ := hc.cells
              dsimp only [MgO.mg] at m0 m1 m2 m3 m4 m5 m6 m7 m8 m9 m10 hy
              obtain ⟨q2, d2, e6, -⟩ := hy.cap
              subst e6
              have z3 := hk3.size
              have HS := toHid (fun (W : World) (hb : Below wr.heap.size wr W) => sameMsg_same (hyL.below hb (Nat.le_refl _)) (hy.below hb (by omega)) n' a' b' k' tk' tc' tu' tx' tg' g')
              have hbb1 : bb < wr.heap.size := by omega
              have tl : (t : Int) < (L.length : Int) := by omega
              have tl0 : 0 ≤ (t : Int) := by omega
              replace hk2 := toHid hk2
              clear hx h3 hm hc hy hxL h3L hmL hcL hyL l3 l1 hk3
              by_cases htr : t < r
              · have htr2 : ¬ (r : Int) ≤ (t : Int) := by omega
                have htr3 : (t : Int) < (r : Int) := by omega
                rw [if_pos htr] at l2 m0 m1 m2 m3 m4 m5 m6 m7 m8 m9 m10
                have tl2 : (t : Int) < (x0.length : Int) := by omega
                go_upto_region 23 with (fail)
                refine wp_region_below (by kernel_rfl) (by kernel_rfl) ?_
                repeat (first
                  | go_big_quiet_skip
                  | (go_big_quiet_want; go_big_quiet_op; go_big_quiet_on)
                  | (refine wpQuiet_step (fun K hK => ?_)
                     go_simp
                     first
                       | (refine hK _ ?_; clear hK K)
                       | (refine ⟨_, fun w' hw' => rfl, hK _ ?_⟩; clear hK K)
                       | (apply Exists.intro
                          refine ⟨fun w' hw' => ?_, hK _ ?_⟩
                          · (obtain ⟨hc', hf'⟩ := bcell hw'
                             first
                               | (go_simp; rfl)
                               | (go_at_call 15; refine (HS.out _ hw').mono ?_; rintro e w9 ⟨rfl, h9⟩; exact ⟨rfl, hw'.on h9⟩))
                          clear hK K)))
                refine wpQuiet_nil ?_
                intro wc hc0
                go_wp2
                go_roundw
                case rel => exact ⟨t + 1, by omega, by go_num, hk2.out.on hc0⟩
                case measure => simp [intOf]; omega
              · have htr2 : (r : Int) ≤ (t : Int) := by omega
                have htr3 : ¬ (t : Int) < (r : Int) := by omega
                rw [if_neg htr] at l2 m0 m1 m2 m3 m4 m5 m6 m7 m8 m9 m10
                have tl2 : (t : Int) + 1 < (x0.length : Int) := by omega
                have tl3 : 0 ≤ (t : Int) + 1 := by omega
                have tl4 : t + 1 < x0.length := l2
                go_upto_region 23 with (fail)
                refine wp_region_below (by kernel_rfl) (by kernel_rfl) ?_
                repeat (first
                  | go_big_quiet_skip
                  | (go_big_quiet_want; go_big_quiet_op; go_big_quiet_on)
                  | (refine wpQuiet_step (fun K hK => ?_)
                     go_simp
                     first
                       | (refine hK _ ?_; clear hK K)
                       | (refine ⟨_, fun w' hw' => rfl, hK _ ?_⟩; clear hK K)
                       | (apply Exists.intro
                          refine ⟨fun w' hw' => ?_, hK _ ?_⟩
                          · (obtain ⟨hc', hf'⟩ := bcell hw'
                             first
                               | (go_simp; rfl)
                               | (go_at_call 15; refine (HS.out _ hw').mono ?_; rintro e w9 ⟨rfl, h9⟩; exact ⟨rfl, hw'.on h9⟩))
                          clear hK K)))
                refine wpQuiet_nil ?_
                intro wc hc0
                go_wp2
                go_roundw
                case rel => exact ⟨t + 1, by omega, by go_num, hk2.out.on hc0⟩
                case measure => simp [intOf]; omega
            · have tl : ¬ (t : Int) < (L.length : Int) := by omega
              replace hk2 := toHid hk2
              go_wp2
              go_ret
              exact ⟨rfl, hk.out.on hk2.out⟩

/-! ### The row's step -/
set_option maxRecDepth 100000 in
theorem lifted (os : Os) (started : os.Started) (H : Type) (enc : TypeId × Value → H) :
    ReturnsInHanded {} Try.checked os 5 .any (Rows.queueRowSpec.pre6 enc Try.prog Try.f5 Rows.queueRowRow.domain false) (Rows.queueRowSpec.post enc Try.prog Try.f5 false true false false) := by
  refine returnsInHanded_of_change_sized (C := Try.checked) ownK started (by kernel_rfl) Try.func5
    (ChangeSpec.witness6 (enc := enc) (C := Try.checked) false ⟨#[], #[.slice none 0 0, .int .i64 0], []⟩ 8 (by kernel_rfl) (by kernel_rfl) (by kernel_rfl) (by kernel_rfl)) ?_
  intro W base args ds gs before hval0 hW hcnd hsz0 _
  have hsz : (DataW.weightsEach Try.prog (Try.f5.params.toList ++ Rows.queueRowSpec.plain.varTypes Try.prog) (ds ++ gs)).all (· ≤ reachBytes) = true := hsz0
  have hval : ∀ (j : Nat) t v, Try.f5.params[j]? = some t → args[j]? = some v → Value.okWide Try.prog W .any base t v := hval0
  have hW' := hW
  obtain ⟨p, q, hA0, hV, rfl, hfz, hnd⟩ := hW
  have hA : DataW.TrodAll enc Try.prog W 0 (fun _ => true) true Try.f5.params.toList args.toList ds p := hA0
  rw [Try.params5] at hA hval hsz
  obtain ⟨v0, vs0, d0, ds0, p0, q0, hargs, rfl, rfl, h0, r0⟩ := trodAll_cons hA
  obtain ⟨v1, vs1, d1, ds1, p1, q1, rfl, rfl, rfl, h1, r1⟩ := trodAll_cons r0
  obtain ⟨rfl, rfl, rfl⟩ := trodAll_nil r1
  obtain rfl : args = #[v0, v1] := by cases args; simp_all
  obtain ⟨rfl, rfl⟩ := trodVars_none hV
  clear r0 r1
  have k0 := h0
  have lt0 : ∀ x ∈ p0, x.block < W.heap.size := by obtain ⟨m, hm⟩ := k0; exact DataW.trod_lt m _ _ _ hm
  have z0 : ∀ n ∈ d0.weights Try.prog 22, n ≤ reachBytes := fun n hn => by simpa using List.all_eq_true.1 hsz _ (DataW.weights_mem_each (j := 0) rfl rfl n hn)
  have f0 : W.noneFrozen p0 := fun b off hm => hfz b off (by simp [hm])
  have k1 := h1
  have lt1 : ∀ x ∈ p1, x.block < W.heap.size := by obtain ⟨m, hm⟩ := k1; exact DataW.trod_lt m _ _ _ hm
  obtain ⟨x0, r0, s0, u0⟩ := open_rowM (hval 0 22 v0 rfl rfl) h0 f0 z0
  obtain ⟨a1, rfl, rfl, rfl, w1⟩ := open_int Try.underlying3 (hval 1 3 v1 rfl rfl) h1
  clear hA0 hval0
  refine (walk v0 x0 a1 W r0 s0 u0 w1).mono fun e W' ⟨he, bel⟩ => ?_
  subst he
  exact ⟨_, rfl, _, _, _, [], _, [], hW', trodAll_mk1 (shut_bool Try.underlying4 _), (trodAll_cons_mk (Below.trod laidOut (by kernel_rfl) (of_decide_eq_true (by kernel_rfl)) k0 bel lt0) (trodAll_cons_mk (Below.trod laidOut (by kernel_rfl) (of_decide_eq_true (by kernel_rfl)) k1 bel lt1) trodAll_mk0)), rfl, bel.frame _, fun h => by cases h⟩

theorem over : Rows.queueRowRow.holds Try.pinned (OpenSpec.ofChange Rows.queueRowSpec) :=
  OpenClaim.holds_of_wide 5 Try.f5 rfl rfl rfl rfl rfl rfl rfl ⟨rfl, rfl, rfl, rfl, rfl⟩ rfl rfl rfl rfl rfl (by kernel_rfl) Try.func5 (by kernel_rfl)
    (of_decide_eq_true (by kernel_rfl)) (by unfold Func.isWrapper; first | (rw [if_pos (by decide +kernel)]; kernel_rfl) | (rw [if_neg (by decide +kernel)]; exact ⟨rfl, rfl⟩))
    (fun os started H enc _ => lifted os started H enc)

end Go.Proofs.Ytnnhnidefjhakaa.queueRow

namespace Go.Proofs.Ytnnhnidefjhakaa
/-- The statement, by its short name. -/
theorem queueRow_holds : Rows.QueueRowSaid := queueRow.over
#print axioms queueRow_holds
end Go.Proofs.Ytnnhnidefjhakaa
