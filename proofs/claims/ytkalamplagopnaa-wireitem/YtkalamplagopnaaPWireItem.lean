
/-
  The statement WireItem: each of the seven bytes of an item stands where it should.
-/
import Derived.Test.YtkalamplagopnaaRows
import Derived.Test.YtkalamplagopnaaOpen
import Derived.Test.YtkalamplagopnaaWireLaw
import Derived.Test.YtkalamplagopnaaWireRef
import Derived.Test.YtkalamplagopnaaCalm
import Derived.Test.YtkalamplagopnaaOld
import Derived.BigRegion
namespace Go.Proofs.Ytkalamplagopnaa.wireItem
open Go.ChangeShapes Go.WideShapes Go.ChangeAt Go.RowKit
set_option linter.unusedVariables false

/-! ### The walk -/
set_option maxHeartbeats 4000000 in
theorem walk (a0 : Int) (a1 : Int) (a2 : Int) (a3 : Int) (a4 : Bool) (w : World) (w0 : (Lit.int .i64 a0).wf = true) (w1 : (Lit.int .i64 a1).wf = true) (w2 : (Lit.int .i64 a2).wf = true) (w3 : (Lit.int .i64 a3).wf = true) :
    Calls Try.prog 7 #[.int .i64 a0, .int .i64 a1, .int .i64 a2, .int .i64 a3, .bool a4] w fun e w' => e = .returned (.bool true) ∧ Below w.heap.size w w' := by
  obtain ⟨K, hK⟩ : ∃ x, a0 % 256 = x := ⟨_, rfl⟩
  obtain ⟨U, hU⟩ : ∃ x, a2 % 256 = x := ⟨_, rfl⟩
  obtain ⟨V, hV⟩ : ∃ x, a3 % 256 = x := ⟨_, rfl⟩
  obtain ⟨r, hr⟩ : ∃ r : Nat, r = (a1 % 18446744073709551616).toNat % 65535 := ⟨_, rfl⟩
  have c0 : bits .and .i64 a0 255 = K := (and255 a0).trans hK
  have c2 : bits .and .i64 a2 255 = U := (and255 a2).trans hU
  have c3 : bits .and .i64 a3 255 = V := (and255 a3).trans hV
  have c1 : (IntKind.u64.wrap a1).tmod 65535 = (r : Int) := rem_u64 a1 65535 r hr
  have lr : r < 65535 := by omega
  have K0 : 0 ≤ K := by omega
  have K1 : K < 256 := by omega
  have U0 : 0 ≤ U := by omega
  have U1 : U < 256 := by omega
  have V0 : 0 ≤ V := by omega
  have V1 : V < 256 := by omega
  clear hK hU hV w0 w1 w2 w3
  cases a4 with
  | false =>
    have hm : mayB ⟨1, 1, 2, [], 0, ⟨K, 1 + (r : Int), U, V, false⟩, false⟩ = true := by simp [mayB, mgB, endB, knB, brgB, itB, byB, verB, cntB, plB] <;> omega
    have HP := fun (W : World) => wPut_any (RowI.nil0 (lo := 0) (hi := 0) (w := W)) (Nat.zero_le _) 1 1 2 0 K (1 + (r : Int)) U V false false
    have e1 : putL ⟨1, 1, 2, [], 0, ⟨K, 1 + (r : Int), U, V, false⟩, false⟩ = encM ⟨1, 1, 2, [], 0, ⟨K, 1 + (r : Int), U, V, false⟩, false⟩ := by simp [putL, hm]
    have e2 : putE ⟨1, 1, 2, [], 0, ⟨K, 1 + (r : Int), U, V, false⟩, false⟩ = 0 := by simp [putE, hm]
    rw [e1, e2] at HP
    have hX8 := encM_byts ⟨1, 1, 2, [], 0, ⟨K, 1 + (r : Int), U, V, false⟩, false⟩
    have hlen : (encM ⟨1, 1, 2, [], 0, ⟨K, 1 + (r : Int), U, V, false⟩, false⟩).length = 10 := by simp [enc_len, rest_len]
    obtain ⟨X, hX⟩ : ∃ X, encM ⟨1, 1, 2, [], 0, ⟨K, 1 + (r : Int), U, V, false⟩, false⟩ = X := ⟨_, rfl⟩
    rw [hX] at HP hX8 hlen
    replace HP := toHid HP
    obtain ⟨z3, q3, l3, u3, g3⟩ := sb_at hX8 (i := 3) (by omega)
    obtain ⟨z4, q4, l4, u4, g4⟩ := sb_at hX8 (i := 4) (by omega)
    obtain ⟨z5, q5, l5, u5, g5⟩ := sb_at hX8 (i := 5) (by omega)
    obtain ⟨z6, q6, l6, u6, g6⟩ := sb_at hX8 (i := 6) (by omega)
    obtain ⟨z7, q7, l7, u7, g7⟩ := sb_at hX8 (i := 7) (by omega)
    obtain ⟨z8, q8, l8, u8, g8⟩ := sb_at hX8 (i := 8) (by omega)
    obtain ⟨z9, q9, l9, u9, g9⟩ := sb_at hX8 (i := 9) (by omega)
    have p3 : z3 = K := by rw [← q3, ← hX]; exact by8_in (by omega) (by omega)
    have p4 : z4 = by8 (1 + (r : Int)) := by rw [← q4, ← hX]; rfl
    have p5 : z5 = by8 ((1 + (r : Int)) / 256) := by rw [← q5, ← hX]; rfl
    have p6 : z6 = U := by rw [← q6, ← hX]; exact by8_in (by omega) (by omega)
    have p7 : z7 = V := by rw [← q7, ← hX]; first | rfl | exact by8_in (by omega) (by omega)
    have p8 : z8 = 0 := by rw [← q8, ← hX]; rfl
    have p9 : z9 = by8 (K + z4 + z5 + U + V + 0) := by
      rw [← q9, ← hX, p4, p5]
      show by8 (sumL [by8 K, by8 (1 + (r : Int)), by8 ((1 + (r : Int)) / 256), by8 U, by8 V, fl false]) = _
      rw [by8_in (x := K) (by omega) (by omega), by8_in (x := U) (by omega) (by omega), by8_in (x := V) (by omega) (by omega)]
      simp [sumL, fl]
    have hT : sumN X 9 - sumN X 3 = K + z4 + z5 + U + V + 0 := by
      rw [sumN_succ X (i := 8) (by omega), sumN_succ X (i := 7) (by omega), sumN_succ X (i := 6) (by omega), sumN_succ X (i := 5) (by omega), sumN_succ X (i := 4) (by omega), sumN_succ X (i := 3) (by omega), q3, q4, q5, q6, q7, q8,
        by8_in l3 u3, by8_in l4 u4, by8_in l5 u5, by8_in l6 u6, by8_in l7 u7, by8_in l8 u8, p3, p6, p7, p8]
      omega
    have h45 : IntKind.i64.wrap (z4 + 256 * z5) = 1 + (r : Int) := by rw [IntKind.wrap_i64, p4, p5]; unfold by8; omega
    have h5 : IntKind.i64.wrap (256 * z5) = 256 * z5 := by rw [IntKind.wrap_i64]; omega
    have h4 : IntKind.i64.wrap z4 = z4 := by rw [IntKind.wrap_i64]; omega
    have h5' : IntKind.i64.wrap z5 = z5 := by rw [IntKind.wrap_i64]; omega
    have h9 : IntKind.i64.wrap z9 = z9 := by rw [IntKind.wrap_i64]; omega
    have hA : Hid (bits .and .i64 (sumN X 9 - sumN X 3) 255 = z9) := toHid (by rw [and255, hT, p9]; rfl)
    rw [p3] at g3
    rw [p6] at g6
    rw [p7] at g7
    rw [p8] at g8
    have sX := sb_len X
    have yr : IntKind.i64.wrap (1 + (r : Int)) = 1 + (r : Int) := by rw [IntKind.wrap_i64]; omega
    have yr' : IntKind.i64.wrap (r : Int) = (r : Int) := by rw [IntKind.wrap_i64]; omega
    have yK : IntKind.i64.wrap K = K := by rw [IntKind.wrap_i64]; omega
    have yU : IntKind.i64.wrap U = U := by rw [IntKind.wrap_i64]; omega
    have yV : IntKind.i64.wrap V = V := by rw [IntKind.wrap_i64]; omega
    replace hX8 := toHid hX8
    clear hX hT p3 p4 p5 p6 p7 p8 p9 q3 q4 q5 q6 q7 q8 q9 e1 e2 hm l3 u3 l4 u4 l5 u5 l6 u6 l7 u7 l8 u8 l9 u9 hr lr K0 K1 U0 U1 V0 V1
    go_enter Try.func7, Try.ntmps7
    go_wp2_with (first
      | (go_at_call 16; refine (awake13_any _).mono ?_; rintro e w1 ⟨rfl, h1⟩)
      | (go_at_call 9; refine (HP.out _).mono ?_; rintro e w2 ⟨rfl, h2⟩
         have BI : Box _ w1.heap.size #[.int .i64 K, .int .i64 (1 + (r : Int)), .int .i64 U, .int .i64 V, .bool false] := (Box.new w1 #[.int .i64 K, .int .i64 (1 + (r : Int)), .int .i64 U, .int .i64 V, .bool false] 26)
         replace BI := toHid (BI.below h2)
         have hB := toHid (h1.trans ((((Below.refl w.heap.size w1).alloc h1.size _)).trans (h2.mono (by have := h1.size; simp; omega))))
         obtain ⟨b1, b2, b3⟩ := BI.out
         clear h1 h2)
      | (go_at_call 13; refine (num_any _ _).mono ?_; rintro e w9 ⟨rfl, hw9⟩; subst w9))
    go_loop [14, 15] (fun s14 s15 => ∃ i : Nat, 3 ≤ i ∧ i ≤ 9 ∧ s15 = .int .i64 i ∧ s14 = .int .i64 (sumN X i - sumN X 3)) (fun _ s15 => 9 - (intOf s15).toNat)
    case atStart => exact ⟨3, Nat.le_refl _, by omega, rfl, by simp⟩
    case round =>
      obtain ⟨i, hi3, hi, rfl, rfl⟩ := hrel
      by_cases hlt : i < 9
      · have hlt' : (i : Int) < 9 := by omega
        have hi10 : (i : Int) < 10 := by omega
        have hi0 : 0 ≤ (i : Int) := by omega
        obtain ⟨z, hz, hz0, hz1, hz2⟩ := sb_at hX8.out (i := i) (by omega)
        have hS : Hid (sumN X (i + 1) - sumN X 3 = sumN X i - sumN X 3 + z) := toHid (by rw [sumN_succ X (by omega), hz, by8_in hz0 hz1]; omega)
        have hb1 := sumN_range X i
        have hb2 := sumN_range X 3
        have y1 : Hid (wrap64 z = z) := toHid (w64_in _ ⟨by omega, by omega⟩)
        have y2 : Hid (wrap64 (sumN X i - sumN X 3 + z) = sumN X i - sumN X 3 + z) := toHid (by unfold wrap64; omega)
        generalize sumN X i - sumN X 3 = Q at hS y2 ⊢
        clear hz hb1 hb2
        go_wp2
        go_round
        case rel => exact ⟨i + 1, by omega, by omega, by go_num, by first | rw [y1.out, y2.out, hS.out] | rw [y2.out, hS.out]⟩
        case measure => simp [intOf]; omega
      · obtain rfl : i = 9 := by omega
        have hA' := hA.out
        generalize sumN X 9 - sumN X 3 = Q at hA' ⊢
        clear hA
        go_wp2
        refine wp_region_below (by kernel_rfl) (by kernel_rfl) ?_
        repeat (first
          | go_big_quiet_skip
          | (go_big_quiet_want; go_big_quiet_op; go_big_quiet_on)
          | (refine wpQuiet_step (fun K hK => ?_)
             go_simp
             first
               | (refine hK _ ?_; clear hK K)
               | (refine ⟨_, fun w' hw' => rfl, hK _ ?_⟩; clear hK K)
               | (apply Exists.intro
                  refine ⟨fun w' hw' => ?_, hK _ ?_⟩
                  · (obtain ⟨hc', hf'⟩ := bcell hw'
                     first
                       | (go_simp; rfl))
                  clear hK K)))
        refine wpQuiet_nil ?_
        intro wc hc0
        go_wp2
        go_ret
        exact ⟨rfl, hB.out.on hc0⟩
  | true =>
    have hm : mayB ⟨1, 1, 2, [], 0, ⟨K, 1 + (r : Int), U, 0, true⟩, false⟩ = true := by simp [mayB, mgB, endB, knB, brgB, itB, byB, verB, cntB, plB] <;> omega
    have HP := fun (W : World) => wPut_any (RowI.nil0 (lo := 0) (hi := 0) (w := W)) (Nat.zero_le _) 1 1 2 0 K (1 + (r : Int)) U 0 true false
    have e1 : putL ⟨1, 1, 2, [], 0, ⟨K, 1 + (r : Int), U, 0, true⟩, false⟩ = encM ⟨1, 1, 2, [], 0, ⟨K, 1 + (r : Int), U, 0, true⟩, false⟩ := by simp [putL, hm]
    have e2 : putE ⟨1, 1, 2, [], 0, ⟨K, 1 + (r : Int), U, 0, true⟩, false⟩ = 0 := by simp [putE, hm]
    rw [e1, e2] at HP
    have hX8 := encM_byts ⟨1, 1, 2, [], 0, ⟨K, 1 + (r : Int), U, 0, true⟩, false⟩
    have hlen : (encM ⟨1, 1, 2, [], 0, ⟨K, 1 + (r : Int), U, 0, true⟩, false⟩).length = 10 := by simp [enc_len, rest_len]
    obtain ⟨X, hX⟩ : ∃ X, encM ⟨1, 1, 2, [], 0, ⟨K, 1 + (r : Int), U, 0, true⟩, false⟩ = X := ⟨_, rfl⟩
    rw [hX] at HP hX8 hlen
    replace HP := toHid HP
    obtain ⟨z3, q3, l3, u3, g3⟩ := sb_at hX8 (i := 3) (by omega)
    obtain ⟨z4, q4, l4, u4, g4⟩ := sb_at hX8 (i := 4) (by omega)
    obtain ⟨z5, q5, l5, u5, g5⟩ := sb_at hX8 (i := 5) (by omega)
    obtain ⟨z6, q6, l6, u6, g6⟩ := sb_at hX8 (i := 6) (by omega)
    obtain ⟨z7, q7, l7, u7, g7⟩ := sb_at hX8 (i := 7) (by omega)
    obtain ⟨z8, q8, l8, u8, g8⟩ := sb_at hX8 (i := 8) (by omega)
    obtain ⟨z9, q9, l9, u9, g9⟩ := sb_at hX8 (i := 9) (by omega)
    have p3 : z3 = K := by rw [← q3, ← hX]; exact by8_in (by omega) (by omega)
    have p4 : z4 = by8 (1 + (r : Int)) := by rw [← q4, ← hX]; rfl
    have p5 : z5 = by8 ((1 + (r : Int)) / 256) := by rw [← q5, ← hX]; rfl
    have p6 : z6 = U := by rw [← q6, ← hX]; exact by8_in (by omega) (by omega)
    have p7 : z7 = 0 := by rw [← q7, ← hX]; first | rfl | exact by8_in (by omega) (by omega)
    have p8 : z8 = 1 := by rw [← q8, ← hX]; rfl
    have p9 : z9 = by8 (K + z4 + z5 + U + 0 + 1) := by
      rw [← q9, ← hX, p4, p5]
      show by8 (sumL [by8 K, by8 (1 + (r : Int)), by8 ((1 + (r : Int)) / 256), by8 U, by8 0, fl true]) = _
      rw [by8_in (x := K) (by omega) (by omega), by8_in (x := U) (by omega) (by omega), by8_in (x := 0) (by omega) (by omega)]
      simp [sumL, fl]
    have hT : sumN X 9 - sumN X 3 = K + z4 + z5 + U + 0 + 1 := by
      rw [sumN_succ X (i := 8) (by omega), sumN_succ X (i := 7) (by omega), sumN_succ X (i := 6) (by omega), sumN_succ X (i := 5) (by omega), sumN_succ X (i := 4) (by omega), sumN_succ X (i := 3) (by omega), q3, q4, q5, q6, q7, q8,
        by8_in l3 u3, by8_in l4 u4, by8_in l5 u5, by8_in l6 u6, by8_in l7 u7, by8_in l8 u8, p3, p6, p7, p8]
      omega
    have h45 : IntKind.i64.wrap (z4 + 256 * z5) = 1 + (r : Int) := by rw [IntKind.wrap_i64, p4, p5]; unfold by8; omega
    have h5 : IntKind.i64.wrap (256 * z5) = 256 * z5 := by rw [IntKind.wrap_i64]; omega
    have h4 : IntKind.i64.wrap z4 = z4 := by rw [IntKind.wrap_i64]; omega
    have h5' : IntKind.i64.wrap z5 = z5 := by rw [IntKind.wrap_i64]; omega
    have h9 : IntKind.i64.wrap z9 = z9 := by rw [IntKind.wrap_i64]; omega
    have hA : Hid (bits .and .i64 (sumN X 9 - sumN X 3) 255 = z9) := toHid (by rw [and255, hT, p9]; rfl)
    rw [p3] at g3
    rw [p6] at g6
    rw [p7] at g7
    rw [p8] at g8
    have sX := sb_len X
    have yr : IntKind.i64.wrap (1 + (r : Int)) = 1 + (r : Int) := by rw [IntKind.wrap_i64]; omega
    have yr' : IntKind.i64.wrap (r : Int) = (r : Int) := by rw [IntKind.wrap_i64]; omega
    have yK : IntKind.i64.wrap K = K := by rw [IntKind.wrap_i64]; omega
    have yU : IntKind.i64.wrap U = U := by rw [IntKind.wrap_i64]; omega
    have yV : IntKind.i64.wrap V = V := by rw [IntKind.wrap_i64]; omega
    replace hX8 := toHid hX8
    clear hX hT p3 p4 p5 p6 p7 p8 p9 q3 q4 q5 q6 q7 q8 q9 e1 e2 hm l3 u3 l4 u4 l5 u5 l6 u6 l7 u7 l8 u8 l9 u9 hr lr K0 K1 U0 U1 V0 V1
    go_enter Try.func7, Try.ntmps7
    go_wp2_with (first
      | (go_at_call 16; refine (awake13_any _).mono ?_; rintro e w1 ⟨rfl, h1⟩)
      | (go_at_call 9; refine (HP.out _).mono ?_; rintro e w2 ⟨rfl, h2⟩
         have BI : Box _ w1.heap.size #[.int .i64 K, .int .i64 (1 + (r : Int)), .int .i64 U, .int .i64 0, .bool true] := (Box.new w1 #[.int .i64 K, .int .i64 (1 + (r : Int)), .int .i64 U, .int .i64 0, .bool true] 26)
         replace BI := toHid (BI.below h2)
         have hB := toHid (h1.trans ((((Below.refl w.heap.size w1).alloc h1.size _)).trans (h2.mono (by have := h1.size; simp; omega))))
         obtain ⟨b1, b2, b3⟩ := BI.out
         clear h1 h2)
      | (go_at_call 13; refine (num_any _ _).mono ?_; rintro e w9 ⟨rfl, hw9⟩; subst w9))
    go_loop [14, 15] (fun s14 s15 => ∃ i : Nat, 3 ≤ i ∧ i ≤ 9 ∧ s15 = .int .i64 i ∧ s14 = .int .i64 (sumN X i - sumN X 3)) (fun _ s15 => 9 - (intOf s15).toNat)
    case atStart => exact ⟨3, Nat.le_refl _, by omega, rfl, by simp⟩
    case round =>
      obtain ⟨i, hi3, hi, rfl, rfl⟩ := hrel
      by_cases hlt : i < 9
      · have hlt' : (i : Int) < 9 := by omega
        have hi10 : (i : Int) < 10 := by omega
        have hi0 : 0 ≤ (i : Int) := by omega
        obtain ⟨z, hz, hz0, hz1, hz2⟩ := sb_at hX8.out (i := i) (by omega)
        have hS : Hid (sumN X (i + 1) - sumN X 3 = sumN X i - sumN X 3 + z) := toHid (by rw [sumN_succ X (by omega), hz, by8_in hz0 hz1]; omega)
        have hb1 := sumN_range X i
        have hb2 := sumN_range X 3
        have y1 : Hid (wrap64 z = z) := toHid (w64_in _ ⟨by omega, by omega⟩)
        have y2 : Hid (wrap64 (sumN X i - sumN X 3 + z) = sumN X i - sumN X 3 + z) := toHid (by unfold wrap64; omega)
        generalize sumN X i - sumN X 3 = Q at hS y2 ⊢
        clear hz hb1 hb2
        go_wp2
        go_round
        case rel => exact ⟨i + 1, by omega, by omega, by go_num, by first | rw [y1.out, y2.out, hS.out] | rw [y2.out, hS.out]⟩
        case measure => simp [intOf]; omega
      · obtain rfl : i = 9 := by omega
        have hA' := hA.out
        generalize sumN X 9 - sumN X 3 = Q at hA' ⊢
        clear hA
        go_wp2
        refine wp_region_below (by kernel_rfl) (by kernel_rfl) ?_
        repeat (first
          | go_big_quiet_skip
          | (go_big_quiet_want; go_big_quiet_op; go_big_quiet_on)
          | (refine wpQuiet_step (fun K hK => ?_)
             go_simp
             first
               | (refine hK _ ?_; clear hK K)
               | (refine ⟨_, fun w' hw' => rfl, hK _ ?_⟩; clear hK K)
               | (apply Exists.intro
                  refine ⟨fun w' hw' => ?_, hK _ ?_⟩
                  · (obtain ⟨hc', hf'⟩ := bcell hw'
                     first
                       | (go_simp; rfl))
                  clear hK K)))
        refine wpQuiet_nil ?_
        intro wc hc0
        go_wp2
        go_ret
        exact ⟨rfl, hB.out.on hc0⟩

/-! ### The row's step -/
set_option maxRecDepth 100000 in
theorem lifted (os : Os) (started : os.Started) (H : Type) (enc : TypeId × Value → H) :
    ReturnsInHanded {} Try.checked os 7 .any (Rows.wireItemSpec.pre6 enc Try.prog Try.f7 Rows.wireItemRow.domain false) (Rows.wireItemSpec.post enc Try.prog Try.f7 false true false false) := by
  refine returnsInHanded_of_change_sized (C := Try.checked) ownK started (by kernel_rfl) Try.func7
    (ChangeSpec.witness6 (enc := enc) (C := Try.checked) false ⟨#[], #[.int .i64 0, .int .i64 0, .int .i64 0, .int .i64 0, .bool false], []⟩ 8 (by kernel_rfl) (by kernel_rfl) (by kernel_rfl) (by kernel_rfl)) ?_
  intro W base args ds gs before hval0 hW hcnd hsz0 _
  have hsz : (DataW.weightsEach Try.prog (Try.f7.params.toList ++ Rows.wireItemSpec.plain.varTypes Try.prog) (ds ++ gs)).all (· ≤ reachBytes) = true := hsz0
  have hval : ∀ (j : Nat) t v, Try.f7.params[j]? = some t → args[j]? = some v → Value.okWide Try.prog W .any base t v := hval0
  have hW' := hW
  obtain ⟨p, q, hA0, hV, rfl, hfz, hnd⟩ := hW
  have hA : DataW.TrodAll enc Try.prog W 0 (fun _ => true) true Try.f7.params.toList args.toList ds p := hA0
  rw [Try.params7] at hA hval hsz
  obtain ⟨v0, vs0, d0, ds0, p0, q0, hargs, rfl, rfl, h0, r0⟩ := trodAll_cons hA
  obtain ⟨v1, vs1, d1, ds1, p1, q1, rfl, rfl, rfl, h1, r1⟩ := trodAll_cons r0
  obtain ⟨v2, vs2, d2, ds2, p2, q2, rfl, rfl, rfl, h2, r2⟩ := trodAll_cons r1
  obtain ⟨v3, vs3, d3, ds3, p3, q3, rfl, rfl, rfl, h3, r3⟩ := trodAll_cons r2
  obtain ⟨v4, vs4, d4, ds4, p4, q4, rfl, rfl, rfl, h4, r4⟩ := trodAll_cons r3
  obtain ⟨rfl, rfl, rfl⟩ := trodAll_nil r4
  obtain rfl : args = #[v0, v1, v2, v3, v4] := by cases args; simp_all
  obtain ⟨rfl, rfl⟩ := trodVars_none hV
  clear r0 r1 r2 r3 r4
  have k0 := h0
  have lt0 : ∀ x ∈ p0, x.block < W.heap.size := by obtain ⟨m, hm⟩ := k0; exact DataW.trod_lt m _ _ _ hm
  have k1 := h1
  have lt1 : ∀ x ∈ p1, x.block < W.heap.size := by obtain ⟨m, hm⟩ := k1; exact DataW.trod_lt m _ _ _ hm
  have k2 := h2
  have lt2 : ∀ x ∈ p2, x.block < W.heap.size := by obtain ⟨m, hm⟩ := k2; exact DataW.trod_lt m _ _ _ hm
  have k3 := h3
  have lt3 : ∀ x ∈ p3, x.block < W.heap.size := by obtain ⟨m, hm⟩ := k3; exact DataW.trod_lt m _ _ _ hm
  have k4 := h4
  have lt4 : ∀ x ∈ p4, x.block < W.heap.size := by obtain ⟨m, hm⟩ := k4; exact DataW.trod_lt m _ _ _ hm
  obtain ⟨a0, rfl, rfl, rfl, w0⟩ := open_int Try.underlying3 (hval 0 3 v0 rfl rfl) h0
  obtain ⟨a1, rfl, rfl, rfl, w1⟩ := open_int Try.underlying3 (hval 1 3 v1 rfl rfl) h1
  obtain ⟨a2, rfl, rfl, rfl, w2⟩ := open_int Try.underlying3 (hval 2 3 v2 rfl rfl) h2
  obtain ⟨a3, rfl, rfl, rfl, w3⟩ := open_int Try.underlying3 (hval 3 3 v3 rfl rfl) h3
  obtain ⟨a4, rfl, rfl, rfl⟩ := open_bool Try.underlying4 (hval 4 4 v4 rfl rfl) h4
  clear hA0 hval0
  refine (walk a0 a1 a2 a3 a4 W w0 w1 w2 w3).mono fun e W' ⟨he, bel⟩ => ?_
  subst he
  exact ⟨_, rfl, _, _, _, [], _, [], hW', trodAll_mk1 (shut_bool Try.underlying4 _), (trodAll_cons_mk (Below.trod laidOut (by kernel_rfl) (of_decide_eq_true (by kernel_rfl)) k0 bel lt0) (trodAll_cons_mk (Below.trod laidOut (by kernel_rfl) (of_decide_eq_true (by kernel_rfl)) k1 bel lt1) (trodAll_cons_mk (Below.trod laidOut (by kernel_rfl) (of_decide_eq_true (by kernel_rfl)) k2 bel lt2) (trodAll_cons_mk (Below.trod laidOut (by kernel_rfl) (of_decide_eq_true (by kernel_rfl)) k3 bel lt3) (trodAll_cons_mk (Below.trod laidOut (by kernel_rfl) (of_decide_eq_true (by kernel_rfl)) k4 bel lt4) trodAll_mk0))))), rfl, bel.frame _, fun h => by cases h⟩

theorem over : Rows.wireItemRow.holds Try.pinned (OpenSpec.ofChange Rows.wireItemSpec) :=
  OpenClaim.holds_of_wide 7 Try.f7 rfl rfl rfl rfl rfl rfl rfl ⟨rfl, rfl, rfl, rfl, rfl⟩ rfl rfl rfl rfl rfl (by kernel_rfl) Try.func7 (by kernel_rfl)
    (of_decide_eq_true (by kernel_rfl)) (by unfold Func.isWrapper; first | (rw [if_pos (by decide +kernel)]; kernel_rfl) | (rw [if_neg (by decide +kernel)]; exact ⟨rfl, rfl⟩))
    (fun os started H enc _ => lifted os started H enc)

end Go.Proofs.Ytkalamplagopnaa.wireItem

namespace Go.Proofs.Ytkalamplagopnaa
/-- The statement, by its short name. -/
theorem wireItem_holds : Rows.WireItemSaid := wireItem.over
#print axioms wireItem_holds
end Go.Proofs.Ytkalamplagopnaa
