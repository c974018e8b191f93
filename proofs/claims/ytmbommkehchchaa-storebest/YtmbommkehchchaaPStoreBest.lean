/-
  The statement StoreBest: a store holds of each key the best of all that were put, whatever row they were put in.
-/
import Derived.Test.YtmbommkehchchaaRows
import Derived.Test.YtmbommkehchchaaOpen
import Derived.Test.YtmbommkehchchaaStoreLaw
import Derived.Test.YtmbommkehchchaaStorePut
import Derived.Test.YtmbommkehchchaaOpenT
namespace Go.Proofs.Ytmbommkehchchaa.storeBest
open Go.ChangeShapes Go.WideShapes Go.ChangeAt Go.RowKit
set_option linter.unusedVariables false

/-! ### The walk -/
set_option maxRecDepth 20000 in
set_option maxHeartbeats 4000000 in
theorem walk (v0 : Value) (x0 : List It) (a1 : Int) (w : World) (r0 : RowT 0 w.heap.size w v0 x0) (s0 : x0.length * 40 ≤ 140737488351232) (w0 : ∀ x ∈ x0, ItW x) (w1 : (Lit.int .i64 a1).wf = true) :
    Calls Try.prog 5 #[v0, .int .i64 a1] w fun e w' => e = .returned (.bool true) ∧ Below w.heap.size w w' := by
  clear w0 w1
  have hl0 : x0.length * 40 ≤ 140737488351232 := s0
  clear s0
  obtain ⟨p0, c0, e0, n0, hp0⟩ := r0.its (Nat.le_refl _)
  subst e0
  clear r0
  obtain ⟨N, hN⟩ : ∃ N : Nat, N = min x0.length 16 := ⟨_, rfl⟩
  have hN1 : N ≤ x0.length := by omega
  have hN2 : N ≤ 16 := by omega
  replace hN := toHid hN
  obtain ⟨LL, hLL⟩ : ∃ LL, LL = x0.take N := ⟨_, rfl⟩
  have hLn : LL.length = N := by rw [hLL]; simp; omega
  obtain ⟨r, hrr⟩ : ∃ r : Nat, r = (a1 % 18446744073709551616).toNat % N := ⟨_, rfl⟩
  obtain ⟨RR, hRR⟩ : ∃ RR, RR = LL.drop r ++ LL.take r := ⟨_, rfl⟩
  have hRn : RR.length = N := by rw [hRR]; simp; omega
  replace hLL := toHid hLL
  replace hrr := toHid hrr
  replace hRR := toHid hRR
  replace hLn := toHid hLn
  replace hRn := toHid hRn
  have hfl : Hid (∀ (l : List It) (m : Nat), l.length ≤ 16 → (fold [] (l.take m)).length * 40 ≤ 140737488351232) := fun l m hl => by have := fold_len (l.take m) []; simp only [List.length_take, List.length_nil] at this; omega
  go_enter Try.func5, Try.ntmps5
  go_wp2_with (first
    | (go_at_call 20; refine (awake5_any _).mono ?_; rintro e w1' ⟨rfl, h1⟩))
  · generalize h16 : (16 : Int) = q
    obtain rfl : q = (N : Int) := by have := hN.out; omega
    clear h16
    go_loopw [5, 6, 8] (fun a b i wr => ∃ (m lo hi lo2 hi2 : Nat), m ≤ N ∧ i = .int .i64 m ∧ RowT lo hi wr a (fold [] (LL.take m)) ∧ hi ≤ wr.heap.size ∧ RowT lo2 hi2 wr b (fold [] (RR.take m)) ∧ hi2 ≤ wr.heap.size ∧ Val (LL.take m) ∧ Val (RR.take m) ∧ Below w.heap.size w wr) (fun _ _ i _ => N - (intOf i).toNat)
    case atStart => exact ⟨0, 0, 0, 0, 0, Nat.zero_le _, rfl, RowC.nil0, Nat.zero_le _, RowC.nil0, Nat.zero_le _, fun x hx => by simp at hx, fun x hx => by simp at hx, h1⟩
    case round =>
      obtain ⟨m, lo, hi, lo2, hi2, hm, rfl, rowA, hhi, rowB, hhi2, vA, vB, hbr⟩ := hrel
      by_cases hlt : m < N
      · have hlt' : (m : Int) < (N : Int) := by omega
        have hlt2 : (m : Int) < (x0.length : Int) := by omega
        have hr1 : r < N := by rw [hrr.out]; exact Nat.mod_lt _ (by omega)
        obtain ⟨t, ht⟩ : ∃ t, t = (m + r) % N := ⟨_, rfl⟩
        have ht1 : t < N := by rw [ht]; exact Nat.mod_lt _ (by omega)
        have k7 : (r : Int) < 16 := by omega
        have k8 : (N : Int) ≤ 16 := by omega
        have k9 : (m : Int) < 16 := by omega
        have k5 : (t : Int) < (x0.length : Int) := by omega
        have k6 : (t : Int) < (N : Int) := by omega
        obtain ⟨ua, hua⟩ : ∃ ua, IntKind.u64.wrap a1 = ua := ⟨_, rfl⟩
        have k1 : Hid (ua.tmod (N : Int) = (r : Int)) := by
          show ua.tmod (N : Int) = (r : Int)
          rw [← hua]
          exact rem_u64 a1 N r hrr.out
        have hu0 : 0 ≤ ua := by rw [← hua]; exact u64_nonneg a1
        replace hua := toHid hua
        have k4 : Hid (((m : Int) + (r : Int)).tmod (N : Int) = (t : Int)) := by
          show ((m : Int) + (r : Int)).tmod (N : Int) = (t : Int)
          rw [rem_add, ht]
        have k3 : Hid (((m : Int) + (r : Int)) % (N : Int) = (t : Int)) := by
          show ((m : Int) + (r : Int)) % (N : Int) = (t : Int)
          rw [ht]
          simp
        have k2 : Hid (ua % (N : Int) = (r : Int)) := by
          have := k1.out
          rwa [Int.tmod_eq_emod_of_nonneg hu0] at this
        have K : Hid ((wrap64 ((m : Int) + wrap64 (ua % (N : Int)))).tmod (N : Int) = (t : Int)) := by
          show (wrap64 ((m : Int) + wrap64 (ua % (N : Int)))).tmod (N : Int) = (t : Int)
          rw [k2.out, w64_in (r : Int) (by omega), w64_in ((m : Int) + (r : Int)) (by omega)]
          exact k4.out
        clear k1 k2 k3 k4
        have hLm : m < LL.length := by rw [hLn.out]; exact hlt
        have hRm : m < RR.length := by rw [hRn.out]; exact hlt
        obtain ⟨b, off, rfl, _, hb, hc⟩ := hp0 (by omega)
        have e1 : x0.getD m ⟨0, 0, 0, 0, false⟩ = (LL[m]'hLm) := best_e1 _ hLL.out hLm
        have e2 : x0.getD t ⟨0, 0, 0, 0, false⟩ = (RR[m]'hRm) := best_e2 _ hLL.out hLn.out hRR.out hr1 hlt ht hRm
        have HI : Hid (∀ w', Below w.heap.size w w' → ItAt w' b (off + m * 5) (LL[m]'hLm) ∧ ItAt w' b (off + t * 5) (RR[m]'hRm)) := fun w' h => by
          have i1 := (hc m (by omega)).below h hb
          have i2 := (hc t (by omega)).below h hb
          rw [e1] at i1
          rw [e2] at i2
          exact ⟨i1, i2⟩
        have pA := put_next vA hLm (by rw [hLn.out]; exact hN2)
        have pB := put_next vB hRm (by rw [hRn.out]; exact hN2)
        have hlA := hfl.out LL m (by rw [hLn.out]; exact hN2)
        have hlB := hfl.out RR m (by rw [hRn.out]; exact hN2)
        clear hc hp0 e1 e2 vA vB ht
        generalize (LL[m]'hLm) = A at *
        generalize (RR[m]'hRm) = B at *
        obtain ⟨ak, ac, au, ax, ag⟩ := A
        obtain ⟨bk, bc, bu, bx, bg⟩ := B
        obtain ⟨⟨d1, d2, d3, d4, d5⟩, -⟩ := HI.out wr hbr
        dsimp only at d1 d2 d3 d4 d5
        have t1 := trivial
        rcases Bool.eq_false_or_eq_true (itB ⟨ak, ac, au, ax, ag⟩) with hiA | hiA
        · rcases Bool.eq_false_or_eq_true (itB ⟨bk, bc, bu, bx, bg⟩) with hiB | hiB
          · have qA := toHid (pA.1 hiA)
            have qB := toHid (pB.1 hiB)
            clear pA pB hiA hiB
            replace hua := hua.out
            replace K := K.out
            go_wp2_with (first
              | (go_at_call 10; clear t1; refine (sPut_at rowA hhi hlA _ _ _ _ _ qA.out.1 qA.out.2.1).mono ?_; rintro e w5 ⟨o5, rfl, P5, h5⟩
                 clear d1 d2 d3 d4 d5
                 obtain ⟨-, f1, f2, f3, f4, f5⟩ := HI.out w5 (hbr.on h5)
                 dsimp only at f1 f2 f3 f4 f5)
              | (go_at_call 10; refine (sPut_at (rowB.below h5 hhi2) (Nat.le_trans hhi2 h5.size) hlB _ _ _ _ _ qB.out.1 qB.out.2.1).mono ?_; rintro e w6 ⟨o6, rfl, P6, h6⟩
                 clear f1 f2 f3 f4 f5
                 obtain ⟨⟨d1, d2, d3, d4, d5⟩, -⟩ := HI.out w6 (hbr.on (h5.on h6))
                 dsimp only at d1 d2 d3 d4 d5)
              | (go_at_call 15; refine (num_any _ _).mono ?_; rintro e w' ⟨rfl, hw'⟩; subst w'))
            clear K hua hu0
            go_roundw
            case rel => exact ⟨m + 1, _, _, _, _, by omega, by go_num, P5.below h6 (Nat.le_refl _), h6.size, P6, Nat.le_refl _, qA.out.2.2, qB.out.2.2, hbr.on (h5.on h6)⟩
            case measure => simp [intOf]; omega
          · have qA := toHid (pA.1 hiA)
            have qB := toHid (pB.2 hiB)
            replace hiA := toHid hiA
            replace hiB := toHid hiB
            clear pA pB
            have t2 := trivial
            replace hua := hua.out
            replace K := K.out
            go_wp2_with (first
              | (go_at_call 10; clear t1; refine (sPut_at rowA hhi hlA _ _ _ _ _ qA.out.1 qA.out.2.1).mono ?_; rintro e w5 ⟨o5, rfl, P5, h5⟩
                 clear d1 d2 d3 d4 d5
                 obtain ⟨-, f1, f2, f3, f4, f5⟩ := HI.out w5 (hbr.on h5)
                 dsimp only at f1 f2 f3 f4 f5)
              | (go_at_call 10; refine (sPut_at (rowB.below h5 hhi2) (Nat.le_trans hhi2 h5.size) hlB _ _ _ _ _ qB.out.1 qB.out.2).mono ?_; rintro e w6 ⟨o6, rfl, P6, h6⟩
                 clear f1 f2 f3 f4 f5
                 obtain ⟨⟨d1, d2, d3, d4, d5⟩, -⟩ := HI.out w6 (hbr.on (h5.on h6))
                 dsimp only at d1 d2 d3 d4 d5)
              | (go_at_call 22; clear t2; refine (rIMay_yes _ _ _ _ _ _ hiA.out).mono ?_; rintro e w7 ⟨rfl, h7⟩
                 clear d1 d2 d3 d4 d5
                 obtain ⟨-, f1, f2, f3, f4, f5⟩ := HI.out w7 (hbr.on (h5.on (h6.on h7)))
                 dsimp only at f1 f2 f3 f4 f5)
              | (go_at_call 22; refine (rIMay_no _ _ _ _ _ _ hiB.out).mono ?_; rintro e w8 ⟨rfl, h8⟩)
              | (go_at_call 15; refine (num_any _ _).mono ?_; rintro e w' ⟨rfl, hw'⟩; subst w'))
            go_ret
            exact ⟨rfl, hbr.on (h5.on (h6.on (h7.on h8)))⟩
        · have qA := toHid (pA.2 hiA)
          replace hiA := toHid hiA
          clear pA pB
          replace hua := hua.out
          replace K := K.out
          go_wp2_with (first
            | (go_at_call 10; clear t1; refine (sPut_at rowA hhi hlA _ _ _ _ _ qA.out.1 qA.out.2).mono ?_; rintro e w5 ⟨o5, rfl, P5, h5⟩
               clear d1 d2 d3 d4 d5
               obtain ⟨-, f1, f2, f3, f4, f5⟩ := HI.out w5 (hbr.on h5)
               dsimp only at f1 f2 f3 f4 f5)
            | (go_at_call 10; refine (sPut_at (rowB.below h5 hhi2) (Nat.le_trans hhi2 h5.size) hlB _ _ _ _ _ rfl rfl).mono ?_; rintro e w6 ⟨o6, rfl, P6, h6⟩
               clear f1 f2 f3 f4 f5
               obtain ⟨⟨d1, d2, d3, d4, d5⟩, -⟩ := HI.out w6 (hbr.on (h5.on h6))
               dsimp only at d1 d2 d3 d4 d5)
            | (go_at_call 22; refine (rIMay_no _ _ _ _ _ _ hiA.out).mono ?_; rintro e w7 ⟨rfl, h7⟩)
            | (go_at_call 15; refine (num_any _ _).mono ?_; rintro e w' ⟨rfl, hw'⟩; subst w'))
          go_ret
          exact ⟨rfl, hbr.on (h5.on (h6.on h7))⟩
      · have hme : m = N := by omega
        subst hme
        have tA : LL.take m = LL := List.take_of_length_le (by rw [hLn.out]; exact Nat.le_refl _)
        have tB : RR.take m = RR := List.take_of_length_le (by rw [hRn.out]; exact Nat.le_refl _)
        have hlA := hfl.out LL m (by rw [hLn.out]; exact hN2)
        rw [tA] at rowA vA hlA
        rw [tB] at rowB vB
        have hrot : Hid (fold [] LL = fold [] RR) := by rw [hRR.out]; exact fold_rot r vA
        have hst : Hid (stB (fold [] LL) = true) := stB_iff.2 ⟨fold_val (fun x hx => by cases hx) vA, fold_srt List.Pairwise.nil, by have := fold_len LL []; rw [hLn.out] at this; simp at this; omega⟩
        clear tA tB vA vB hp0
        go_wp2_with (first
          | (go_at_call 14; refine (same_at rowA rowB (b := true) (by rw [hrot.out]; simp)).mono ?_; rintro e w5 ⟨rfl, h5⟩)
          | (go_at_call 16; refine (sMay_at (rowA.below h5 hhi) (Nat.le_trans hhi h5.size) hlA hst.out).mono ?_; rintro e w6 ⟨rfl, h6⟩))
        go_ret
        exact ⟨rfl, hbr.on (h5.on h6)⟩
  · have hNx : x0.length = N := by have := hN.out; omega
    rw [hNx]
    replace hNx := toHid hNx
    go_loopw [5, 6, 8] (fun a b i wr => ∃ (m lo hi lo2 hi2 : Nat), m ≤ N ∧ i = .int .i64 m ∧ RowT lo hi wr a (fold [] (LL.take m)) ∧ hi ≤ wr.heap.size ∧ RowT lo2 hi2 wr b (fold [] (RR.take m)) ∧ hi2 ≤ wr.heap.size ∧ Val (LL.take m) ∧ Val (RR.take m) ∧ Below w.heap.size w wr) (fun _ _ i _ => N - (intOf i).toNat)
    case atStart => exact ⟨0, 0, 0, 0, 0, Nat.zero_le _, rfl, RowC.nil0, Nat.zero_le _, RowC.nil0, Nat.zero_le _, fun x hx => by simp at hx, fun x hx => by simp at hx, h1⟩
    case round =>
      obtain ⟨m, lo, hi, lo2, hi2, hm, rfl, rowA, hhi, rowB, hhi2, vA, vB, hbr⟩ := hrel
      by_cases hlt : m < N
      · have hlt' : (m : Int) < (N : Int) := by omega
        have hlt2 : (m : Int) < (x0.length : Int) := by omega
        have hr1 : r < N := by rw [hrr.out]; exact Nat.mod_lt _ (by omega)
        obtain ⟨t, ht⟩ : ∃ t, t = (m + r) % N := ⟨_, rfl⟩
        have ht1 : t < N := by rw [ht]; exact Nat.mod_lt _ (by omega)
        have k7 : (r : Int) < 16 := by omega
        have k8 : (N : Int) ≤ 16 := by omega
        have k9 : (m : Int) < 16 := by omega
        have k5 : (t : Int) < (x0.length : Int) := by omega
        have k6 : (t : Int) < (N : Int) := by omega
        obtain ⟨ua, hua⟩ : ∃ ua, IntKind.u64.wrap a1 = ua := ⟨_, rfl⟩
        have k1 : Hid (ua.tmod (N : Int) = (r : Int)) := by
          show ua.tmod (N : Int) = (r : Int)
          rw [← hua]
          exact rem_u64 a1 N r hrr.out
        have hu0 : 0 ≤ ua := by rw [← hua]; exact u64_nonneg a1
        replace hua := toHid hua
        have k4 : Hid (((m : Int) + (r : Int)).tmod (N : Int) = (t : Int)) := by
          show ((m : Int) + (r : Int)).tmod (N : Int) = (t : Int)
          rw [rem_add, ht]
        have k3 : Hid (((m : Int) + (r : Int)) % (N : Int) = (t : Int)) := by
          show ((m : Int) + (r : Int)) % (N : Int) = (t : Int)
          rw [ht]
          simp
        have k2 : Hid (ua % (N : Int) = (r : Int)) := by
          have := k1.out
          rwa [Int.tmod_eq_emod_of_nonneg hu0] at this
        have K : Hid ((wrap64 ((m : Int) + wrap64 (ua % (N : Int)))).tmod (N : Int) = (t : Int)) := by
          show (wrap64 ((m : Int) + wrap64 (ua % (N : Int)))).tmod (N : Int) = (t : Int)
          rw [k2.out, w64_in (r : Int) (by omega), w64_in ((m : Int) + (r : Int)) (by omega)]
          exact k4.out
        clear k1 k2 k3 k4
        have hLm : m < LL.length := by rw [hLn.out]; exact hlt
        have hRm : m < RR.length := by rw [hRn.out]; exact hlt
        obtain ⟨b, off, rfl, _, hb, hc⟩ := hp0 (by omega)
        have e1 : x0.getD m ⟨0, 0, 0, 0, false⟩ = (LL[m]'hLm) := best_e1 _ hLL.out hLm
        have e2 : x0.getD t ⟨0, 0, 0, 0, false⟩ = (RR[m]'hRm) := best_e2 _ hLL.out hLn.out hRR.out hr1 hlt ht hRm
        have HI : Hid (∀ w', Below w.heap.size w w' → ItAt w' b (off + m * 5) (LL[m]'hLm) ∧ ItAt w' b (off + t * 5) (RR[m]'hRm)) := fun w' h => by
          have i1 := (hc m (by omega)).below h hb
          have i2 := (hc t (by omega)).below h hb
          rw [e1] at i1
          rw [e2] at i2
          exact ⟨i1, i2⟩
        have pA := put_next vA hLm (by rw [hLn.out]; exact hN2)
        have pB := put_next vB hRm (by rw [hRn.out]; exact hN2)
        have hlA := hfl.out LL m (by rw [hLn.out]; exact hN2)
        have hlB := hfl.out RR m (by rw [hRn.out]; exact hN2)
        clear hc hp0 e1 e2 vA vB ht
        generalize (LL[m]'hLm) = A at *
        generalize (RR[m]'hRm) = B at *
        obtain ⟨ak, ac, au, ax, ag⟩ := A
        obtain ⟨bk, bc, bu, bx, bg⟩ := B
        obtain ⟨⟨d1, d2, d3, d4, d5⟩, -⟩ := HI.out wr hbr
        dsimp only at d1 d2 d3 d4 d5
        have t1 := trivial
        rcases Bool.eq_false_or_eq_true (itB ⟨ak, ac, au, ax, ag⟩) with hiA | hiA
        · rcases Bool.eq_false_or_eq_true (itB ⟨bk, bc, bu, bx, bg⟩) with hiB | hiB
          · have qA := toHid (pA.1 hiA)
            have qB := toHid (pB.1 hiB)
            clear pA pB hiA hiB
            replace hua := hua.out
            replace K := K.out
            go_wp2_with (first
              | (go_at_call 10; clear t1; refine (sPut_at rowA hhi hlA _ _ _ _ _ qA.out.1 qA.out.2.1).mono ?_; rintro e w5 ⟨o5, rfl, P5, h5⟩
                 clear d1 d2 d3 d4 d5
                 obtain ⟨-, f1, f2, f3, f4, f5⟩ := HI.out w5 (hbr.on h5)
                 dsimp only at f1 f2 f3 f4 f5)
              | (go_at_call 10; refine (sPut_at (rowB.below h5 hhi2) (Nat.le_trans hhi2 h5.size) hlB _ _ _ _ _ qB.out.1 qB.out.2.1).mono ?_; rintro e w6 ⟨o6, rfl, P6, h6⟩
                 clear f1 f2 f3 f4 f5
                 obtain ⟨⟨d1, d2, d3, d4, d5⟩, -⟩ := HI.out w6 (hbr.on (h5.on h6))
                 dsimp only at d1 d2 d3 d4 d5)
              | (go_at_call 15; refine (num_any _ _).mono ?_; rintro e w' ⟨rfl, hw'⟩; subst w'))
            clear K hua hu0
            go_roundw
            case rel => exact ⟨m + 1, _, _, _, _, by omega, by go_num, P5.below h6 (Nat.le_refl _), h6.size, P6, Nat.le_refl _, qA.out.2.2, qB.out.2.2, hbr.on (h5.on h6)⟩
            case measure => simp [intOf]; omega
          · have qA := toHid (pA.1 hiA)
            have qB := toHid (pB.2 hiB)
            replace hiA := toHid hiA
            replace hiB := toHid hiB
            clear pA pB
            have t2 := trivial
            replace hua := hua.out
            replace K := K.out
            go_wp2_with (first
              | (go_at_call 10; clear t1; refine (sPut_at rowA hhi hlA _ _ _ _ _ qA.out.1 qA.out.2.1).mono ?_; rintro e w5 ⟨o5, rfl, P5, h5⟩
                 clear d1 d2 d3 d4 d5
                 obtain ⟨-, f1, f2, f3, f4, f5⟩ := HI.out w5 (hbr.on h5)
                 dsimp only at f1 f2 f3 f4 f5)
              | (go_at_call 10; refine (sPut_at (rowB.below h5 hhi2) (Nat.le_trans hhi2 h5.size) hlB _ _ _ _ _ qB.out.1 qB.out.2).mono ?_; rintro e w6 ⟨o6, rfl, P6, h6⟩
                 clear f1 f2 f3 f4 f5
                 obtain ⟨⟨d1, d2, d3, d4, d5⟩, -⟩ := HI.out w6 (hbr.on (h5.on h6))
                 dsimp only at d1 d2 d3 d4 d5)
              | (go_at_call 22; clear t2; refine (rIMay_yes _ _ _ _ _ _ hiA.out).mono ?_; rintro e w7 ⟨rfl, h7⟩
                 clear d1 d2 d3 d4 d5
                 obtain ⟨-, f1, f2, f3, f4, f5⟩ := HI.out w7 (hbr.on (h5.on (h6.on h7)))
                 dsimp only at f1 f2 f3 f4 f5)
              | (go_at_call 22; refine (rIMay_no _ _ _ _ _ _ hiB.out).mono ?_; rintro e w8 ⟨rfl, h8⟩)
              | (go_at_call 15; refine (num_any _ _).mono ?_; rintro e w' ⟨rfl, hw'⟩; subst w'))
            go_ret
            exact ⟨rfl, hbr.on (h5.on (h6.on (h7.on h8)))⟩
        · have qA := toHid (pA.2 hiA)
          replace hiA := toHid hiA
          clear pA pB
          replace hua := hua.out
          replace K := K.out
          go_wp2_with (first
            | (go_at_call 10; clear t1; refine (sPut_at rowA hhi hlA _ _ _ _ _ qA.out.1 qA.out.2).mono ?_; rintro e w5 ⟨o5, rfl, P5, h5⟩
               clear d1 d2 d3 d4 d5
               obtain ⟨-, f1, f2, f3, f4, f5⟩ := HI.out w5 (hbr.on h5)
               dsimp only at f1 f2 f3 f4 f5)
            | (go_at_call 10; refine (sPut_at (rowB.below h5 hhi2) (Nat.le_trans hhi2 h5.size) hlB _ _ _ _ _ rfl rfl).mono ?_; rintro e w6 ⟨o6, rfl, P6, h6⟩
               clear f1 f2 f3 f4 f5
               obtain ⟨⟨d1, d2, d3, d4, d5⟩, -⟩ := HI.out w6 (hbr.on (h5.on h6))
               dsimp only at d1 d2 d3 d4 d5)
            | (go_at_call 22; refine (rIMay_no _ _ _ _ _ _ hiA.out).mono ?_; rintro e w7 ⟨rfl, h7⟩)
            | (go_at_call 15; refine (num_any _ _).mono ?_; rintro e w' ⟨rfl, hw'⟩; subst w'))
          go_ret
          exact ⟨rfl, hbr.on (h5.on (h6.on h7))⟩
      · have hme : m = N := by omega
        subst hme
        have tA : LL.take m = LL := List.take_of_length_le (by rw [hLn.out]; exact Nat.le_refl _)
        have tB : RR.take m = RR := List.take_of_length_le (by rw [hRn.out]; exact Nat.le_refl _)
        have hlA := hfl.out LL m (by rw [hLn.out]; exact hN2)
        rw [tA] at rowA vA hlA
        rw [tB] at rowB vB
        have hrot : Hid (fold [] LL = fold [] RR) := by rw [hRR.out]; exact fold_rot r vA
        have hst : Hid (stB (fold [] LL) = true) := stB_iff.2 ⟨fold_val (fun x hx => by cases hx) vA, fold_srt List.Pairwise.nil, by have := fold_len LL []; rw [hLn.out] at this; simp at this; omega⟩
        clear tA tB vA vB hp0
        go_wp2_with (first
          | (go_at_call 14; refine (same_at rowA rowB (b := true) (by rw [hrot.out]; simp)).mono ?_; rintro e w5 ⟨rfl, h5⟩)
          | (go_at_call 16; refine (sMay_at (rowA.below h5 hhi) (Nat.le_trans hhi h5.size) hlA hst.out).mono ?_; rintro e w6 ⟨rfl, h6⟩))
        go_ret
        exact ⟨rfl, hbr.on (h5.on h6)⟩

/-! ### The row's step -/
set_option maxRecDepth 100000 in
theorem lifted (os : Os) (started : os.Started) (H : Type) (enc : TypeId × Value → H) :
    ReturnsInHanded {} Try.checked os 5 .any (Rows.storeBestSpec.pre6 enc Try.prog Try.f5 Rows.storeBestRow.domain false) (Rows.storeBestSpec.post enc Try.prog Try.f5 false true false false) := by
  refine returnsInHanded_of_change_sized (C := Try.checked) ownK started (by kernel_rfl) Try.func5
    (ChangeSpec.witness6 (enc := enc) (C := Try.checked) false ⟨#[], #[.slice none 0 0, .int .i64 0], []⟩ 8 (by kernel_rfl) (by kernel_rfl) (by kernel_rfl) (by kernel_rfl)) ?_
  intro W base args ds gs before hval0 hW hcnd hsz0 _
  have hsz : (DataW.weightsEach Try.prog (Try.f5.params.toList ++ Rows.storeBestSpec.plain.varTypes Try.prog) (ds ++ gs)).all (· ≤ reachBytes) = true := hsz0
  have hval : ∀ (j : Nat) t v, Try.f5.params[j]? = some t → args[j]? = some v → Value.okWide Try.prog W .any base t v := hval0
  have hW' := hW
  obtain ⟨p, q, hA0, hV, rfl, hfz, hnd⟩ := hW
  have hA : DataW.TrodAll enc Try.prog W 0 (fun _ => true) true Try.f5.params.toList args.toList ds p := hA0
  rw [Try.params5] at hA hval hsz
  obtain ⟨v0, vs0, d0, ds0, p0, q0, hargs, rfl, rfl, h0, r0⟩ := trodAll_cons hA
  obtain ⟨v1, vs1, d1, ds1, p1, q1, rfl, rfl, rfl, h1, r1⟩ := trodAll_cons r0
  obtain ⟨rfl, rfl, rfl⟩ := trodAll_nil r1
  obtain rfl : args = #[v0, v1] := by cases args; simp_all
  obtain ⟨rfl, rfl⟩ := trodVars_none hV
  clear r0 r1
  have k0 := h0
  have lt0 : ∀ x ∈ p0, x.block < W.heap.size := by obtain ⟨m, hm⟩ := k0; exact DataW.trod_lt m _ _ _ hm
  have z0 : ∀ n ∈ d0.weights Try.prog 22, n ≤ reachBytes := fun n hn => by simpa using List.all_eq_true.1 hsz _ (DataW.weights_mem_each (j := 0) rfl rfl n hn)
  have f0 : W.noneFrozen p0 := fun b off hm => hfz b off (by simp [hm])
  have k1 := h1
  have lt1 : ∀ x ∈ p1, x.block < W.heap.size := by obtain ⟨m, hm⟩ := k1; exact DataW.trod_lt m _ _ _ hm
  obtain ⟨x0, r0, s0, w0⟩ := open_rowT (hval 0 22 v0 rfl rfl) h0 f0 z0
  obtain ⟨a1, rfl, rfl, rfl, w1⟩ := open_int Try.underlying3 (hval 1 3 v1 rfl rfl) h1
  clear hA0 hval0
  refine (walk v0 x0 a1 W r0 s0 w0 w1).mono fun e W' ⟨he, bel⟩ => ?_
  subst he
  exact ⟨_, rfl, _, _, _, [], _, [], hW', trodAll_mk1 (shut_bool Try.underlying4 _), (trodAll_cons_mk (Below.trod laidOut (by kernel_rfl) (of_decide_eq_true (by kernel_rfl)) k0 bel lt0) (trodAll_cons_mk (Below.trod laidOut (by kernel_rfl) (of_decide_eq_true (by kernel_rfl)) k1 bel lt1) trodAll_mk0)), rfl, bel.frame _, fun h => by cases h⟩

theorem over : Rows.storeBestRow.holds Try.pinned (OpenSpec.ofChange Rows.storeBestSpec) :=
  OpenClaim.holds_of_wide 5 Try.f5 rfl rfl rfl rfl rfl rfl rfl ⟨rfl, rfl, rfl, rfl, rfl⟩ rfl rfl rfl rfl rfl (by kernel_rfl) Try.func5 (by kernel_rfl)
    (of_decide_eq_true (by kernel_rfl)) (by unfold Func.isWrapper; first | (rw [if_pos (by decide +kernel)]; kernel_rfl) | (rw [if_neg (by decide +kernel)]; exact ⟨rfl, rfl⟩))
    (fun os started H enc _ => lifted os started H enc)

end Go.Proofs.Ytmbommkehchchaa.storeBest

namespace Go.Proofs.Ytmbommkehchchaa
/-- The statement, by its short name. -/
theorem storeBest_holds : Rows.StoreBestSaid := storeBest.over
#print axioms storeBest_holds
end Go.Proofs.Ytmbommkehchchaa
