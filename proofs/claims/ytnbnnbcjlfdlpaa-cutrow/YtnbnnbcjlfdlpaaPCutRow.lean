
/-
  CutRow: cuts put, or taken, in whatever row, either way round: what stands is what was put last: at any list of ints. Conditions: none beyond the statement's own.
-/
import Derived.Test.YtnbnnbcjlfdlpaaRows
import Derived.Test.YtnbnnbcjlfdlpaaOpen
import Derived.Test.YtnbnnbcjlfdlpaaCutLaw
import Derived.Test.YtnbnnbcjlfdlpaaCutMark
import Derived.Test.YtnbnnbcjlfdlpaaIntRow
namespace Go.Proofs.Ytnbnnbcjlfdlpaa.cutRow
open Go.ChangeShapes Go.WideShapes Go.ChangeAt Go.RowKit
set_option linter.unusedVariables false

/-! ### The walk -/
theorem setF_setF (f : Nat → Bool) (k : Nat) (a b : Bool) : setF (setF f k a) k b = setF f k b := by
  funext i
  unfold setF
  split <;> rfl

theorem set_facts {B K : Nat} {wr w3 : World} {o : Value} {xs : List Cu} {f : Nat → Bool} (P : RowU (B + 1) wr.heap.size wr o xs) (h3 : Below wr.heap.size wr w3) (b3 : Box w3 B (marks f)) (hk : K < 64) :
    RowU (B + 1) wr.heap.size (w3.setCell ⟨B, K, none⟩ (.bool true)) o xs ∧ Box (w3.setCell ⟨B, K, none⟩ (.bool true)) B (marks (setF f K true)) :=
  ⟨(P.below h3 (Nat.le_refl _)).onlyU ((Only.refl B (B + 1) w3).setCell (Nat.le_refl _) (Nat.lt_succ_self _) _) (.inr (Nat.le_refl _)), b3.setS K _ (by rw [marks_size]; exact hk) (marks_set f K true)⟩
theorem below_set {w w3 : World} {B : Nat} (h : Below w.heap.size w w3) (hB : w.heap.size ≤ B) (K : Nat) : Below w.heap.size w (w3.setCell ⟨B, K, none⟩ (.bool true)) := h.setCell hB _

set_option maxRecDepth 20000 in
set_option maxHeartbeats 16000000 in
theorem walk (v0 : Value) (x0 : List Int) (w : World) (r0 : RowI 0 w.heap.size w v0 x0) (s0 : x0.length * 8 ≤ 140737488351232) (w0 : ∀ x ∈ x0, (Lit.int .i64 x).wf = true) :
    Calls Try.prog 5 #[v0] w fun e w' => e = .returned (.bool true) ∧ Below w.heap.size w w' := by
  obtain ⟨p1, c1, e0, n0, hpx⟩ := r0.ints (Nat.le_refl _)
  subst e0
  obtain ⟨N, hN⟩ : ∃ N, N = min x0.length 40 := ⟨_, rfl⟩
  clear w0 s0 r0
  go_enter Try.func5, Try.ntmps5
  go_wp2_with (first
    | (go_at_call 20; refine (awake15_any _).mono ?_; rintro e w1 ⟨rfl, h1⟩))
  obtain ⟨B, hB⟩ : ∃ B, Hid (B = w1.heap.size) := ⟨_, toHid rfl⟩
  have hBw : Hid (w.heap.size ≤ B) := toHid (by rw [hB.out]; exact h1.size)
  rw [← hB.out]
  go_loopw [3, 5] (fun o i wr => ∃ (k : Nat) (f : Nat → Bool), k ≤ N ∧ i = .int .i64 k ∧ RowU (B + 1) wr.heap.size wr o (rowX f) ∧ Box wr B (marks f) ∧ Below w.heap.size w wr) (fun _ i _ => N - (intOf i).toNat)
  case atStart =>
    refine ⟨0, fun _ => false, Nat.zero_le _, rfl, by rw [rowX_none]; exact RowC.nil0, ?_, h1.onA _⟩
    rw [hB.out]
    exact Box.newAt _ _ rfl
  case round =>
    obtain ⟨k, f, hk, rfl, P, bM, hbr⟩ := hrel
    by_cases hlt : k < N
    · have hk1 : k < x0.length := by omega
      have hk2 : (k : Int) < (x0.length : Int) := by omega
      have hk3 : (k : Int) < 40 := by omega
      have hk4 : decide ((k : Int) < 40) = true := decide_eq_true hk3
      obtain ⟨bb, off, rfl, _, hbb, hc⟩ := hpx (by omega)
      have d1 := (hbr.cell (p := ⟨bb, off + k, none⟩) hbb).trans (hc k hk1)
      have hbw : bb < wr.heap.size := Nat.lt_of_lt_of_le hbb hbr.size
      generalize x0.getD k 0 = y at d1
      clear hc hpx
      have e7 := and7 y
      have e78 := and7 (y / 8)
      have e3 := and3 (y / 64)
      obtain ⟨a, hay⟩ : ∃ c : Nat, (c : Int) = y % 8 := ⟨(y % 8).toNat, by omega⟩
      obtain ⟨b, hby⟩ : ∃ c : Nat, (c : Int) = y / 8 % 8 := ⟨(y / 8 % 8).toNat, by omega⟩
      have ha8 : a < 8 := by omega
      have hb8 : b < 8 := by omega
      have ha9 : (a : Int) < 8 := by omega
      have hb9 : (b : Int) < 8 := by omega
      have ha0 : 0 ≤ (a : Int) := by omega
      have hb0 : 0 ≤ (b : Int) := by omega
      obtain ⟨m, hm⟩ : ∃ m : Int, m = y / 64 % 4 := ⟨_, rfl⟩
      rw [← hay] at e7
      rw [← hby] at e78
      rw [← hm] at e3
      have hm0 : 0 ≤ m := by omega
      have hm4 : m < 4 := by omega
      clear hay hby hm
      by_cases hab : a = b
      · subst hab
        replace P := toHid P
        replace bM := toHid bM
        go_wp2
        go_quiet (fail)
        go_wp2
        go_roundw
        case rel => exact ⟨k + 1, f, by omega, by go_num, P.out.drewN _, bM.out.drewN _, hbr.onD _⟩
        case measure => simp [intOf]; omega
      · have hab1 : ¬ (a : Int) = (b : Int) := by omega
        have hab2 : ((a : Int) == (b : Int)) = false := by simpa using hab1
        go_wp2
        go_quiet (fail)
        obtain ⟨wq, hwq⟩ : ∃ x, x = wr.drewN nq := ⟨_, rfl⟩
        rw [← hwq]
        replace P : RowU (B + 1) wq.heap.size wq u3 (rowX f) := by rw [hwq]; exact P.drewN _
        replace bM : Box wq B (marks f) := by rw [hwq]; exact bM.drewN _
        replace hbr : Below w.heap.size w wq := by rw [hwq]; exact hbr.onD _
        replace d1 : wq.cell? ⟨bb, off + k, none⟩ = some (.int .i64 y) := by rw [hwq]; exact d1
        replace hbw : bb < wq.heap.size := by rw [hwq]; exact hbw
        clear hwq
        obtain ⟨wr, hwr⟩ : ∃ x, x = wq := ⟨_, rfl⟩
        rw [← hwr] at P bM hbr d1 hbw ⊢
        clear hwr
        rcases Nat.lt_or_gt_of_ne hab with hlt2 | hlt2
        · have mn : min (a : Int) (b : Int) = (a : Int) := by omega
          have mx : max (a : Int) (b : Int) = (b : Int) := by omega
          have n1 : ¬ (b : Int) ≤ (a : Int) := by omega
          have hK : 8 * (a : Int) + (b : Int) = ((8 * a + b : Nat) : Int) := by omega
          have hmm : 8 * min a b + max a b = 8 * a + b := by omega
          have hk64 : 8 * a + b < 64 := by omega
          have hk64' : ((8 * a + b : Nat) : Int) < 64 := by omega
          have s1 := toHid (rowX_put (f := f) hab ha8 hb8)
          rw [hmm] at s1
          have s2 := toHid (rowX_take (f := f) hab ha8 hb8)
          rw [hmm] at s2
          clear hmm
          obtain ⟨K, hKK⟩ : ∃ K, 8 * a + b = K := ⟨_, rfl⟩
          rw [hKK] at hK hk64 hk64' s1 s2
          have f1 : wr.frozen? ⟨B, K, none⟩ = false := bM.2.2 K
          have hK0 : (0 : Int) ≤ (K : Int) := by omega
          clear hKK
          replace bM := toHid bM
          replace P := toHid P
          by_cases hm0 : m = 0
          · subst hm0
            go_wp2_with (first
              | (go_at_call 8; refine (uWith_at P.out (Nat.le_refl _) _ _ s1.out.1 s1.out.2).mono ?_; rintro e w3 ⟨o3, rfl, P3, h3⟩
                 have b3 := bM.out.below h3
                 have g1 := (b3.2.1 K).trans (marks_at f K hk64)
                 have g2 := b3.2.2 K
                 have z3 : B + 1 ≤ wr.heap.size := bM.out.1
                 have x1 : B < w3.heap.size := b3.1
                 have d2 := (h3.cell (p := ⟨bb, off + k, none⟩) hbw).trans d1
                 have hne : B ≠ bb := by have := hBw.out; omega
                 have S4 := toHid (set_facts P.out h3 b3 hk64)
                 have hB4 := toHid (below_set (hbr.on h3) hBw.out K)
                 have zz := h3.size
                 clear b3 P3)
              | (go_at_call 10; refine (uWithout_at S4.out.1 (by rw [World.size_setCell]; exact zz) _ _ s2.out.1 s2.out.2).mono ?_; rintro e w5 ⟨o5, rfl, P5, h5⟩
                 have b5 := S4.out.2.below h5
                 have g3 := (b5.2.1 K).trans (marks_at (setF f K true) K hk64)
                 have g4 := b5.2.2 K
                 have x5 : B < w5.heap.size := b5.1
                 replace b5 := toHid b5
                 have z5 : B + 1 ≤ (w3.setCell ⟨B, K, none⟩ (.bool true)).heap.size := S4.out.2.1
                 replace P5 := toHid P5)
              | (go_at_call 15; refine (num_any _ _).mono ?_; rintro e w' ⟨rfl, hw'⟩; subst w'))
            go_roundw
            case rel =>
              refine ⟨k + 1, setF f K false, by omega, by go_num, ?_, b5.out.setS K _ (by rw [marks_size]; exact hk64) (by rw [← marks_set, setF_setF]), (hB4.out.on h5).setCell hBw.out _⟩
              rw [World.size_setCell]
              exact (P5.out.onlyU ((Only.refl B (B + 1) w5).setCell (Nat.le_refl _) (Nat.lt_succ_self _) _) (.inr z5)).wide z5 (Nat.le_refl _)
            case measure => simp [intOf]; omega
          · have hm1 : (m == 0) = false := by simpa using hm0
            go_wp2_with (first
              | (go_at_call 8; refine (uWith_at P.out (Nat.le_refl _) _ _ s1.out.1 s1.out.2).mono ?_; rintro e w3 ⟨o3, rfl, P3, h3⟩
                 have b3 := bM.out.below h3
                 have g1 := (b3.2.1 K).trans (marks_at f K hk64)
                 have g2 := b3.2.2 K
                 have z3 : B + 1 ≤ wr.heap.size := bM.out.1
                 obtain ⟨x1, x2, x3⟩ : B < w3.heap.size ∧ True ∧ True := ⟨b3.1, trivial, trivial⟩
                 have hbw3 : bb < w3.heap.size := by have := hbr.size; have := h3.size; omega
                 have d2 := (h3.cell (p := ⟨bb, off + k, none⟩) hbw).trans d1
                 have hne : B ≠ bb := by have := hBw.out; omega
                 replace b3 := toHid b3
                 replace P3 := toHid P3)
              | (go_at_call 15; refine (num_any _ _).mono ?_; rintro e w' ⟨rfl, hw'⟩; subst w'))
            go_roundw
            case rel =>
              refine ⟨k + 1, setF f K true, by omega, by go_num, ?_, b3.out.setS K _ (by rw [marks_size]; exact hk64) (marks_set f K true), (hbr.on h3).setCell hBw.out _⟩
              rw [World.size_setCell]
              exact (P3.out.onlyU ((Only.refl B (B + 1) w3).setCell (Nat.le_refl _) (Nat.lt_succ_self _) _) (.inr z3)).wide z3 (Nat.le_refl _)
            case measure => simp [intOf]; omega
        · have mn : min (a : Int) (b : Int) = (b : Int) := by omega
          have mx : max (a : Int) (b : Int) = (a : Int) := by omega
          have n1 : ¬ (a : Int) ≤ (b : Int) := by omega
          have hK : 8 * (b : Int) + (a : Int) = ((8 * b + a : Nat) : Int) := by omega
          have hmm : 8 * min a b + max a b = 8 * b + a := by omega
          have hk64 : 8 * b + a < 64 := by omega
          have hk64' : ((8 * b + a : Nat) : Int) < 64 := by omega
          have s1 := toHid (rowX_put (f := f) hab ha8 hb8)
          rw [hmm] at s1
          have s2 := toHid (rowX_take (f := f) hab ha8 hb8)
          rw [hmm] at s2
          clear hmm
          obtain ⟨K, hKK⟩ : ∃ K, 8 * b + a = K := ⟨_, rfl⟩
          rw [hKK] at hK hk64 hk64' s1 s2
          have f1 : wr.frozen? ⟨B, K, none⟩ = false := bM.2.2 K
          have hK0 : (0 : Int) ≤ (K : Int) := by omega
          clear hKK
          replace bM := toHid bM
          replace P := toHid P
          by_cases hm0 : m = 0
          · subst hm0
            go_wp2_with (first
              | (go_at_call 8; refine (uWith_at P.out (Nat.le_refl _) _ _ s1.out.1 s1.out.2).mono ?_; rintro e w3 ⟨o3, rfl, P3, h3⟩
                 have b3 := bM.out.below h3
                 have g1 := (b3.2.1 K).trans (marks_at f K hk64)
                 have g2 := b3.2.2 K
                 have z3 : B + 1 ≤ wr.heap.size := bM.out.1
                 have x1 : B < w3.heap.size := b3.1
                 have d2 := (h3.cell (p := ⟨bb, off + k, none⟩) hbw).trans d1
                 have hne : B ≠ bb := by have := hBw.out; omega
                 have S4 := toHid (set_facts P.out h3 b3 hk64)
                 have hB4 := toHid (below_set (hbr.on h3) hBw.out K)
                 have zz := h3.size
                 clear b3 P3)
              | (go_at_call 10; refine (uWithout_at S4.out.1 (by rw [World.size_setCell]; exact zz) _ _ s2.out.1 s2.out.2).mono ?_; rintro e w5 ⟨o5, rfl, P5, h5⟩
                 have b5 := S4.out.2.below h5
                 have g3 := (b5.2.1 K).trans (marks_at (setF f K true) K hk64)
                 have g4 := b5.2.2 K
                 have x5 : B < w5.heap.size := b5.1
                 replace b5 := toHid b5
                 have z5 : B + 1 ≤ (w3.setCell ⟨B, K, none⟩ (.bool true)).heap.size := S4.out.2.1
                 replace P5 := toHid P5)
              | (go_at_call 15; refine (num_any _ _).mono ?_; rintro e w' ⟨rfl, hw'⟩; subst w'))
            go_roundw
            case rel =>
              refine ⟨k + 1, setF f K false, by omega, by go_num, ?_, b5.out.setS K _ (by rw [marks_size]; exact hk64) (by rw [← marks_set, setF_setF]), (hB4.out.on h5).setCell hBw.out _⟩
              rw [World.size_setCell]
              exact (P5.out.onlyU ((Only.refl B (B + 1) w5).setCell (Nat.le_refl _) (Nat.lt_succ_self _) _) (.inr z5)).wide z5 (Nat.le_refl _)
            case measure => simp [intOf]; omega
          · have hm1 : (m == 0) = false := by simpa using hm0
            go_wp2_with (first
              | (go_at_call 8; refine (uWith_at P.out (Nat.le_refl _) _ _ s1.out.1 s1.out.2).mono ?_; rintro e w3 ⟨o3, rfl, P3, h3⟩
                 have b3 := bM.out.below h3
                 have g1 := (b3.2.1 K).trans (marks_at f K hk64)
                 have g2 := b3.2.2 K
                 have z3 : B + 1 ≤ wr.heap.size := bM.out.1
                 obtain ⟨x1, x2, x3⟩ : B < w3.heap.size ∧ True ∧ True := ⟨b3.1, trivial, trivial⟩
                 have hbw3 : bb < w3.heap.size := by have := hbr.size; have := h3.size; omega
                 have d2 := (h3.cell (p := ⟨bb, off + k, none⟩) hbw).trans d1
                 have hne : B ≠ bb := by have := hBw.out; omega
                 replace b3 := toHid b3
                 replace P3 := toHid P3)
              | (go_at_call 15; refine (num_any _ _).mono ?_; rintro e w' ⟨rfl, hw'⟩; subst w'))
            go_roundw
            case rel =>
              refine ⟨k + 1, setF f K true, by omega, by go_num, ?_, b3.out.setS K _ (by rw [marks_size]; exact hk64) (marks_set f K true), (hbr.on h3).setCell hBw.out _⟩
              rw [World.size_setCell]
              exact (P3.out.onlyU ((Only.refl B (B + 1) w3).setCell (Nat.le_refl _) (Nat.lt_succ_self _) _) (.inr z3)).wide z3 (Nat.le_refl _)
            case measure => simp [intOf]; omega
    · obtain rfl : k = N := by omega
      have hexit : (¬ (k : Int) < (x0.length : Int)) ∨ ((k : Int) < (x0.length : Int) ∧ ¬ (k : Int) < 40) := by omega
      obtain ⟨wL, rfl⟩ : ∃ x, x = wr := ⟨wr, rfl⟩
      clear hN hk hlt h1 hpx
      replace P := toHid P
      replace bM := toHid bM
      rcases hexit with hx1 | ⟨hx1, hx2⟩
      all_goals
        first | (have hx3 : decide ((k : Int) < 40) = false := decide_eq_false hx2) | skip
        go_wp2
        clear hx1
        first | clear hx2 hx3 | skip
        go_loopw [11] (fun i wr => ∃ a : Nat, a ≤ 8 ∧ i = .int .i64 a ∧ Below wL.heap.size wL wr) (fun i _ => 8 - (intOf i).toNat)
        case atStart => exact ⟨0, Nat.zero_le _, rfl, Below.refl _ _⟩
        case round =>
          obtain ⟨a, ha, rfl, hbs⟩ := hrel
          by_cases hla : a < 8
          · have hla' : (a : Int) < 8 := by omega
            have ha0 : 0 ≤ (a : Int) := by omega
            obtain ⟨w2, rfl⟩ : ∃ x, x = wr := ⟨wr, rfl⟩
            go_wp2
            go_loopw [12] (fun i wr => ∃ b : Nat, a + 1 ≤ b ∧ b ≤ 8 ∧ i = .int .i64 b ∧ Below wL.heap.size wL wr) (fun i _ => 8 - (intOf i).toNat)
            case atStart => exact ⟨a + 1, Nat.le_refl _, by omega, by go_num, hbs⟩
            case round =>
              obtain ⟨b, hab, hb, rfl, hbs2⟩ := hrel
              by_cases hlb : b < 8
              · have hlb' : (b : Int) < 8 := by omega
                have hb0 : 0 ≤ (b : Int) := by omega
                have hi := toHid (rowX_is (f := f) (a := a) (b := b) (by omega) hlb)
                obtain ⟨K, hKK⟩ : ∃ K, 8 * a + b = K := ⟨_, rfl⟩
                have hK : 8 * (a : Int) + (b : Int) = (K : Int) := by omega
                have hk64 : K < 64 := by omega
                have hk64' : (K : Int) < 64 := by omega
                have hK0 : (0 : Int) ≤ (K : Int) := by omega
                rw [hKK] at hi
                clear hKK
                have PL := toHid (P.out.below hbs2 (Nat.le_refl _))
                have zL := hbs2.size
                obtain ⟨r, hr⟩ : ∃ r, f K = r := ⟨_, rfl⟩
                have bL := bM.out.below hbs2
                have mk := marks_at f K hk64
                rw [hr] at mk hi
                clear hr
                replace bL := toHid bL
                go_wp2_with (first
                  | (go_at_call 12; refine (uIs_at PL.out zL _ _ hi.out.1 hi.out.2).mono ?_; rintro e w6 ⟨rfl, h6⟩
                     have b6 := bL.out.below h6
                     have x6 : B < w6.heap.size := b6.1
                     have g6 := (b6.2.1 K).trans mk
                     clear b6)
                  | (go_at_call 15; refine (num_any _ _).mono ?_; rintro e w' ⟨rfl, hw'⟩; subst w'))
                go_roundw
                case rel => exact ⟨b + 1, by omega, by omega, by go_num, hbs2.on h6⟩
                case measure => simp [intOf]; omega
              · obtain rfl : b = 8 := by omega
                go_wp2
                go_roundw
                case rel => exact ⟨a + 1, by omega, by go_num, hbs2⟩
                case measure => simp [intOf]; omega
          · obtain rfl : a = 8 := by omega
            have PL := toHid (P.out.below hbs (Nat.le_refl _))
            have hok := toHid (rowX_ok f)
            have y1 := hbs.size
            go_wp2_with (first
              | (go_at_call 16; refine (uMay_is PL.out y1 hok.out).mono ?_; rintro e w7 ⟨rfl, h7⟩))
            go_ret
            exact ⟨rfl, (hbr.on hbs).on h7⟩

/-! ### The row's step -/
set_option maxRecDepth 100000 in
theorem lifted (os : Os) (started : os.Started) (H : Type) (enc : TypeId × Value → H) :
    ReturnsInHanded {} Try.checked os 5 .any (Rows.cutRowSpec.pre6 enc Try.prog Try.f5 Rows.cutRowRow.domain false) (Rows.cutRowSpec.post enc Try.prog Try.f5 false true false false) := by
  refine returnsInHanded_of_change_sized (C := Try.checked) ownK started (by kernel_rfl) Try.func5
    (ChangeSpec.witness6 (enc := enc) (C := Try.checked) false ⟨#[], #[.slice none 0 0], []⟩ 8 (by kernel_rfl) (by kernel_rfl) (by kernel_rfl) (by kernel_rfl)) ?_
  intro W base args ds gs before hval0 hW hcnd hsz0 _
  have hsz : (DataW.weightsEach Try.prog (Try.f5.params.toList ++ Rows.cutRowSpec.plain.varTypes Try.prog) (ds ++ gs)).all (· ≤ reachBytes) = true := hsz0
  have hval : ∀ (j : Nat) t v, Try.f5.params[j]? = some t → args[j]? = some v → Value.okWide Try.prog W .any base t v := hval0
  have hW' := hW
  obtain ⟨p, q, hA0, hV, rfl, hfz, hnd⟩ := hW
  have hA : DataW.TrodAll enc Try.prog W 0 (fun _ => true) true Try.f5.params.toList args.toList ds p := hA0
  rw [Try.params5] at hA hval hsz
  obtain ⟨v0, vs0, d0, ds0, p0, q0, hargs, rfl, rfl, h0, r0⟩ := trodAll_cons hA
  obtain ⟨rfl, rfl, rfl⟩ := trodAll_nil r0
  obtain rfl : args = #[v0] := by cases args; simp_all
  obtain ⟨rfl, rfl⟩ := trodVars_none hV
  clear r0
  have k0 := h0
  have lt0 : ∀ x ∈ p0, x.block < W.heap.size := by obtain ⟨m, hm⟩ := k0; exact DataW.trod_lt m _ _ _ hm
  have z0 : ∀ n ∈ d0.weights Try.prog 43, n ≤ reachBytes := fun n hn => by simpa using List.all_eq_true.1 hsz _ (DataW.weights_mem_each (j := 0) rfl rfl n hn)
  have f0 : W.noneFrozen p0 := fun b off hm => hfz b off (by simp [hm])
  obtain ⟨x0, r0, s0, w0⟩ := open_rowI (hval 0 43 v0 rfl rfl) h0 f0 z0
  clear hA0 hval0
  refine (walk v0 x0 W r0 s0 w0).mono fun e W' ⟨he, bel⟩ => ?_
  subst he
  exact ⟨_, rfl, _, _, _, [], _, [], hW', trodAll_mk1 (shut_bool Try.underlying4 _), (trodAll_cons_mk (Below.trod laidOut (by kernel_rfl) (of_decide_eq_true (by kernel_rfl)) k0 bel lt0) trodAll_mk0), rfl, bel.frame _, fun h => by cases h⟩

theorem over : Rows.cutRowRow.holds Try.pinned (OpenSpec.ofChange Rows.cutRowSpec) :=
  OpenClaim.holds_of_wide 5 Try.f5 rfl rfl rfl rfl rfl rfl rfl ⟨rfl, rfl, rfl, rfl, rfl⟩ rfl rfl rfl rfl rfl (by kernel_rfl) Try.func5 (by kernel_rfl)
    (of_decide_eq_true (by kernel_rfl)) (by unfold Func.isWrapper; first | (rw [if_pos (by decide +kernel)]; kernel_rfl) | (rw [if_neg (by decide +kernel)]; exact ⟨rfl, rfl⟩))
    (fun os started H enc _ => lifted os started H enc)

end Go.Proofs.Ytnbnnbcjlfdlpaa.cutRow

namespace Go.Proofs.Ytnbnnbcjlfdlpaa
/-- The statement, by its short name. -/
theorem cutRow_holds : Rows.CutRowSaid := cutRow.over
#print axioms cutRow_holds
end Go.Proofs.Ytnbnnbcjlfdlpaa
