
/-
  Whether two lists of messages are the same: the statements' own helper, at any two.
-/
import Derived.Test.YtghamcomjfholaaGreatMsgsSpoil
import Derived.Deep.DeepCutAuto
import Derived.Deep.CutRange
import Derived.Deep.CutBlock
namespace Go.Proofs.YtghamcomjfholaaGreat
open Go.ChangeShapes Go.WideShapes Go.ChangeAt Go.RowKit

set_option maxHeartbeats 4000000 in
theorem sameMsgs_any {lo hi lo' hi' : Nat} {w : World} {v u : Value} {ms ns : List Mg} (h : RowM lo hi w v ms) (hh : hi ≤ w.heap.size) (h' : RowM lo' hi' w u ns) (hh' : hi' ≤ w.heap.size) :
    Calls Tryz.prog 8 #[v, u] w fun e w' => e = .returned (.bool (decide (ms = ns))) ∧ Below w.heap.size w w' := by
  have R0 := toHid (fun (wr : World) (hk : Below w.heap.size w wr) => h.below hk hh)
  have R1 := toHid (fun (wr : World) (hk : Below w.heap.size w wr) => h'.below hk hh')
  obtain ⟨p, c, rfl, hn, -⟩ := h.at
  obtain ⟨p', c', rfl, hn', -⟩ := h'.at
  clear h h'
  by_cases hne : ms.length = ns.length
  · obtain ⟨R, hR⟩ : ∃ R, decide (ms = ns) = R := ⟨_, rfl⟩
    rw [hR]
    replace hR := toHid hR
    go_enter Tryz.func8, Tryz.ntmps8
    have hne' : (ms.length : Int) = (ns.length : Int) := by omega
    go_wp2
    go_loopw [5] (fun s5 wr => ∃ i : Nat, i ≤ ms.length ∧ s5 = .int .i64 i ∧ ms.take i = ns.take i ∧ Below w.heap.size w wr) (fun s5 _ => ms.length - (intOf s5).toNat)
    case atStart => exact ⟨0, Nat.zero_le _, rfl, rfl, Below.refl _ w⟩
    case round =>
      obtain ⟨i, hi, rfl, het, hk⟩ := hrel
      by_cases hlt : i < ms.length
      · have hlt2 : i < ns.length := by omega
        obtain ⟨q, d, e, -, hx⟩ := (R0.out _ hk).at
        cases e
        obtain ⟨bb, off, rfl, -, hbb, h3⟩ := hx (by omega)
        obtain ⟨⟨n, a, b, is, k, ⟨tk, tc, tu, tx, tg⟩, g, y⟩, hm, hc⟩ := h3 i hlt
        have hy := hc.2
        obtain ⟨c0, c1, c2, c3, c4, c5, c6, c7, c8, c9, c10⟩ := hc.cells
        dsimp only at c0 c1 c2 c3 c4 c5 c6 c7 c8 c9 c10 hy
        obtain ⟨q', d', e', -, hx'⟩ := (R1.out _ hk).at
        cases e'
        obtain ⟨bb', off', rfl, -, hbb', h3'⟩ := hx' (by omega)
        obtain ⟨⟨n', a', b', is', k', ⟨tk', tc', tu', tx', tg'⟩, g', y'⟩, hm', hc'⟩ := h3' i hlt2
        have hy' := hc'.2
        obtain ⟨f0, f1, f2, f3, f4, f5, f6, f7, f8, f9, f10⟩ := hc'.cells
        dsimp only at f0 f1 f2 f3 f4 f5 f6 f7 f8 f9 f10 hy'
        have hlt' : (i : Int) < (ms.length : Int) := by omega
        have hlt2' : (i : Int) < (ns.length : Int) := by omega
        have hi0 : 0 ≤ (i : Int) := by omega
        have hsz := hk.size
        have hb1 : bb < wr.heap.size := by omega
        have hb2 : bb' < wr.heap.size := by omega
        have hse : Hid (ms.take (i + 1) = ns.take (i + 1) ↔ (⟨n, a, b, is, k, ⟨tk, tc, tu, tx, tg⟩, g⟩ : Mg) = ⟨n', a', b', is', k', ⟨tk', tc', tu', tx', tg'⟩, g'⟩) := toHid (by
          rw [List.take_add_one, List.take_add_one, het, List.getElem?_eq_getElem hlt, List.getElem?_eq_getElem hlt2, ← hm, ← hm']
          simp [MgO.mg])
        have HS := fun (W : World) (hb : Below wr.heap.size wr W) => sameMsg_any (hy.below hb (by omega)) (hy'.below hb (by omega)) n a b k tk tc tu tx tg g n' a' b' k' tk' tc' tu' tx' tg' g'
        obtain ⟨q2, d2, e6, -⟩ := hy.cap
        subst e6
        obtain ⟨q3, d3, e7, -⟩ := hy'.cap
        subst e7
        obtain ⟨r, hr⟩ : ∃ r, decide ((⟨n, a, b, is, k, ⟨tk, tc, tu, tx, tg⟩, g⟩ : Mg) = ⟨n', a', b', is', k', ⟨tk', tc', tu', tx', tg'⟩, g'⟩) = r := ⟨_, rfl⟩
        rw [hr] at HS
        have hrr : Hid (r = true ↔ ms.take (i + 1) = ns.take (i + 1)) := toHid (by rw [← hr, decide_eq_true_iff]; exact hse.out.symm)
        replace HS := toHid HS
        replace hk := toHid hk
        replace het := toHid het
        clear h3 hx hc hm hy h3' hx' hc' hm' hy' hr hse
        cases r with
        | true =>
          go_upto_region 6 with (fail)
          refine wp_region_below (by kernel_rfl) (by kernel_rfl) ?_
          repeat (first
            | go_big_quiet_skip
            | (go_big_quiet_want; go_big_quiet_op; go_big_quiet_on)
            | (refine wpQuiet_step (fun K hK => ?_)
               go_simp
               first
                 | (refine hK _ ?_; clear hK K)
                 | (refine ⟨_, fun w' hw' => rfl, hK _ ?_⟩; clear hK K)
                 | (apply Exists.intro
                    refine ⟨fun w' hw' => ?_, hK _ ?_⟩
                    · (obtain ⟨hc', hf'⟩ := bcell hw'
                       first
                         | (go_simp; rfl)
                         | (go_at_call 27; refine (HS.out _ hw').mono ?_; rintro e w9 ⟨rfl, h9⟩; exact ⟨rfl, hw'.on h9⟩))
                    clear hK K)))
          refine wpQuiet_nil ?_
          intro wc hc0
          go_wp2
          go_roundw
          case rel => exact ⟨i + 1, by omega, by go_num, hrr.out.1 (by trivial), hk.out.on hc0⟩
          case measure => simp [intOf]; omega
        | false =>
          have hRf : Hid (R = false) := toHid (hR.out.symm.trans (decide_eq_false fun e => by
            have := hrr.out.2 (by rw [e])
            cases this))
          go_upto_region 6 with (fail)
          refine wp_region_below (by kernel_rfl) (by kernel_rfl) ?_
          repeat (first
            | go_big_quiet_skip
            | (go_big_quiet_want; go_big_quiet_op; go_big_quiet_on)
            | (refine wpQuiet_step (fun K hK => ?_)
               go_simp
               first
                 | (refine hK _ ?_; clear hK K)
                 | (refine ⟨_, fun w' hw' => rfl, hK _ ?_⟩; clear hK K)
                 | (apply Exists.intro
                    refine ⟨fun w' hw' => ?_, hK _ ?_⟩
                    · (obtain ⟨hc', hf'⟩ := bcell hw'
                       first
                         | (go_simp; rfl)
                         | (go_at_call 27; refine (HS.out _ hw').mono ?_; rintro e w9 ⟨rfl, h9⟩; exact ⟨rfl, hw'.on h9⟩))
                    clear hK K)))
          refine wpQuiet_nil ?_
          intro wc hc0
          go_wp2
          go_ret
          exact ⟨by rw [hRf.out]; rfl, hk.out.on hc0⟩
      · obtain rfl : i = ms.length := by omega
        have hRt : Hid (R = true) := toHid (hR.out.symm.trans (decide_eq_true (by rw [List.take_length, hne, List.take_length] at het; exact het)))
        clear het
        replace hk := toHid hk
        go_wp2
        go_ret
        exact ⟨by rw [hRt.out]; rfl, hk.out⟩
  · have hf : decide (ms = ns) = false := decide_eq_false fun e => hne (by rw [e])
    rw [hf]
    have hne' : ¬ (ms.length : Int) = (ns.length : Int) := by omega
    clear hf R0 R1
    go_enter Tryz.func8, Tryz.ntmps8
    go_wp2
    go_ret
    exact ⟨rfl, Below.refl _ w⟩

end Go.Proofs.YtghamcomjfholaaGreat
