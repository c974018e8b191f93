
/-
  Contracts of the document's own answers about stores (may it be; putting; looking up), at every list of items.
-/
import Derived.Test.YtghamcomjfholaaMsgMath
import Derived.Test.YtghamcomjfholaaItemRow
import Derived.Test.YtghamcomjfholaaOnly
import Derived.Test.YtghamcomjfholaaOld
import Derived.Deep.RegionHeld3
namespace Go.Proofs.Ytghamcomjfholaa
open Go.ChangeShapes Go.WideShapes Go.ChangeAt Go.RowKit

theorem getD_at {α : Type} (xs : List α) (d : α) {j : Nat} (hj : j < xs.length) : xs.getD j d = xs[j] := by simp [List.getD, List.getElem?_eq_getElem hj]

/-- May it be, by its places. -/
theorem stB_at (xs : List It) : stB xs = true ↔ (∀ j, j < xs.length → itB (xs.getD j ⟨0, 0, 0, 0, false⟩) = true ∧ (0 < j → (xs.getD (j - 1) ⟨0, 0, 0, 0, false⟩).k < (xs.getD j ⟨0, 0, 0, 0, false⟩).k)) ∧ xs.length ≤ 16 := by
  rw [stB_iff]
  constructor
  · rintro ⟨h1, h2, h3⟩
    refine ⟨fun j hj => ⟨?_, fun h0 => ?_⟩, h3⟩
    · rw [getD_at _ _ hj]
      exact h1 _ (List.getElem_mem hj)
    · rw [getD_at _ _ hj, getD_at _ _ (show j - 1 < xs.length by omega)]
      exact List.pairwise_iff_getElem.1 h2 _ _ _ _ (by omega)
  · rintro ⟨h1, h3⟩
    refine ⟨fun x hx => ?_, ?_, h3⟩
    · obtain ⟨j, hj, rfl⟩ := List.mem_iff_getElem.1 hx
      have := (h1 j hj).1
      rwa [getD_at _ _ hj] at this
    · refine List.pairwise_iff_getElem.2 ?_
      have step : ∀ d i (hi : i + 1 + d < xs.length), (xs[i]'(by omega)).k < (xs[i + 1 + d]).k := by
        intro d
        induction d with
        | zero =>
          intro i hi
          have := (h1 (i + 1) hi).2 (by omega)
          rwa [getD_at _ _ hi, getD_at _ _ (show i + 1 - 1 < xs.length by omega)] at this
        | succ d ih =>
          intro i hi
          have a := ih i (by omega)
          have := (h1 (i + 1 + (d + 1)) hi).2 (by omega)
          rw [getD_at _ _ hi, getD_at _ _ (show i + 1 + (d + 1) - 1 < xs.length by omega)] at this
          have e : xs[i + 1 + (d + 1) - 1]'(by omega) = xs[i + 1 + d]'(by omega) := rfl
          rw [e] at this
          omega
      intro i j hi hj hij
      have := step (j - i - 1) i (by omega)
      have e : i + 1 + (j - i - 1) = j := by omega
      simpa only [e] using this

theorem rIMay_yes (k c u x : Int) (g : Bool) (w : World) (h : itB ⟨k, c, u, x, g⟩ = true) :
    Calls Try.prog 27 #[.agg #[.int .i64 k, .int .i64 c, .int .i64 u, .int .i64 x, .bool g]] w fun e w' => e = .returned (.bool true) ∧ Below w.heap.size w w' := h ▸ rIMay_any k c u x g w
theorem rIMay_no (k c u x : Int) (g : Bool) (w : World) (h : itB ⟨k, c, u, x, g⟩ = false) :
    Calls Try.prog 27 #[.agg #[.int .i64 k, .int .i64 c, .int .i64 u, .int .i64 x, .bool g]] w fun e w' => e = .returned (.bool false) ∧ Below w.heap.size w w' := h ▸ rIMay_any k c u x g w
set_option maxHeartbeats 4000000 in
theorem rStoreMay_core (p : Option Addr) (n c : Nat) (g : Nat → It) (w : World) (hn : n ≤ 9223372036854775807)
    (hp : 0 < n → ∃ b off, p = some ⟨b, off, none⟩ ∧ b < w.heap.size ∧ ∀ j, j < n → ItAt w b (off + j * 5) (g j))
    (r : Bool) (hr : r = true ↔ (∀ j, j < n → itB (g j) = true ∧ (0 < j → (g (j - 1)).k < (g j).k)) ∧ n ≤ 16) :
    Calls Try.prog 30 #[.slice p n c] w fun e w' => e = .returned (.bool r) ∧ Below w.heap.size w w' := by
  go_enter Try.func30, Try.ntmps30
  go_wp2
  go_loopw [3] (fun i wr => ∃ k : Nat, k ≤ n ∧ i = .int .i64 k ∧ (∀ j, j < k → itB (g j) = true ∧ (0 < j → (g (j - 1)).k < (g j).k)) ∧ Below w.heap.size w wr) (fun i _ => n - (intOf i).toNat)
  case atStart => exact ⟨0, Nat.zero_le _, rfl, fun j hj => absurd hj (Nat.not_lt_zero _), Below.refl _ _⟩
  case round =>
    obtain ⟨k, hk, rfl, hj, hbel⟩ := hrel
    by_cases hlt : k < n
    · obtain ⟨b, off, rfl, hb, h1⟩ := hp (by omega)
      obtain ⟨c1, c2, c3, c4, c5⟩ := (h1 k hlt).below hbel hb
      have hlt' : (k : Int) < (n : Int) := by omega
      have hbw : b < wr.heap.size := Nat.lt_of_lt_of_le hb hbel.size
      rcases k with _ | m
      · simp only [Nat.zero_mul, Nat.add_zero] at c1 c2 c3 c4 c5
        rcases Bool.eq_false_or_eq_true (itB (g 0)) with hi | hi
        · have hj' : ∀ j, j < 0 + 1 → itB (g j) = true ∧ (0 < j → (g (j - 1)).k < (g j).k) := fun j hjk => by
            have e : j = 0 := by omega
            rw [e]
            exact ⟨hi, fun h => absurd h (by omega)⟩
          replace hj' : Hid _ := hj'
          clear hj hr h1 hp
          generalize g 0 = z at c1 c2 c3 c4 c5 hi
          obtain ⟨zk, zc, zu, zx, zg⟩ := z
          dsimp only at c1 c2 c3 c4 c5
          go_wp2
          refine wp_region_below (by kernel_rfl) (by kernel_rfl) ?_
          repeat (first
            | go_big_quiet_skip
            | (go_big_quiet_want; go_big_quiet_op; go_big_quiet_on)
            | (refine wpQuiet_step (fun K hK => ?_)
               go_simp
               first
                 | (refine hK _ ?_; clear hK K)
                 | (refine ⟨_, fun w' hw' => rfl, hK _ ?_⟩; clear hK K)
                 | (apply Exists.intro
                    refine ⟨fun w' hw' => ?_, hK _ ?_⟩
                    · (obtain ⟨hc', hf'⟩ := bcell hw'
                       first
                         | (go_simp; rfl)
                         | (go_at_call 27; refine (rIMay_yes _ _ _ _ _ _ hi).mono ?_; rintro e w3 ⟨rfl, hb3⟩; exact ⟨rfl, hw'.on hb3⟩))
                    clear hK K)))
          refine wpQuiet_nil ?_
          intro wc hc0
          go_wp2
          go_roundw
          case rel => exact ⟨0 + 1, by omega, by go_num, hj'.out, hbel.on hc0⟩
          case measure => simp [intOf]; omega
        · have hrf : r = false := by
            cases r with
            | false => rfl
            | true => have := ((hr.1 rfl).1 0 hlt).1; rw [hi] at this; cases this
          subst hrf
          clear hj hr h1 hp
          generalize g 0 = z at c1 c2 c3 c4 c5 hi
          obtain ⟨zk, zc, zu, zx, zg⟩ := z
          dsimp only at c1 c2 c3 c4 c5
          go_wp2
          refine wp_region_below (by kernel_rfl) (by kernel_rfl) ?_
          repeat (first
            | go_big_quiet_skip
            | (go_big_quiet_want; go_big_quiet_op; go_big_quiet_on)
            | (refine wpQuiet_step (fun K hK => ?_)
               go_simp
               first
                 | (refine hK _ ?_; clear hK K)
                 | (refine ⟨_, fun w' hw' => rfl, hK _ ?_⟩; clear hK K)
                 | (apply Exists.intro
                    refine ⟨fun w' hw' => ?_, hK _ ?_⟩
                    · (obtain ⟨hc', hf'⟩ := bcell hw'
                       first
                         | (go_simp; rfl)
                         | (go_at_call 27; refine (rIMay_no _ _ _ _ _ _ hi).mono ?_; rintro e w3 ⟨rfl, hb3⟩; exact ⟨rfl, hw'.on hb3⟩))
                    clear hK K)))
          refine wpQuiet_nil ?_
          intro wc hc0
          go_wp2
          go_ret
          exact ⟨rfl, hbel.on hc0⟩
      · have c6 := ((h1 m (by omega)).below hbel hb).1
        have hm' : (m : Int) < (n : Int) := by omega
        have hm2 : (m : Int) + 1 < (n : Int) := by omega
        have hm3 : (0 : Int) ≤ (m : Int) + 1 := by omega
        have hm4 : IntKind.i64.wrap (m : Int) = (m : Int) := by rw [IntKind.wrap_i64]; omega
        clear hlt'
        rcases Bool.eq_false_or_eq_true (itB (g (m + 1))) with hi | hi
        · by_cases hlk : (g m).k < (g (m + 1)).k
          · have hj' : ∀ j, j < m + 1 + 1 → itB (g j) = true ∧ (0 < j → (g (j - 1)).k < (g j).k) := fun j hjk => by
              by_cases e : j = m + 1
              · rw [e]
                exact ⟨hi, fun _ => hlk⟩
              · exact hj j (by omega)
            replace hj' : Hid _ := hj'
            have hd1 : ¬ (g (m + 1)).k ≤ (g m).k := by omega
            have hd2 : decide ((g (m + 1)).k ≤ (g m).k) = false := by simpa using hd1
            clear hj hr h1 hp hlk
            generalize (g m).k = y at *
            generalize g (m + 1) = z at c1 c2 c3 c4 c5 hi hd1 hd2
            obtain ⟨zk, zc, zu, zx, zg⟩ := z
            dsimp only at c1 c2 c3 c4 c5 hd1 hd2
            go_wp2
            refine wp_region_below (by kernel_rfl) (by kernel_rfl) ?_
            repeat (first
              | go_big_quiet_skip
              | (go_big_quiet_want; go_big_quiet_op; go_big_quiet_on)
              | (refine wpQuiet_step (fun K hK => ?_)
                 go_simp
                 first
                   | (refine hK _ ?_; clear hK K)
                   | (refine ⟨_, fun w' hw' => rfl, hK _ ?_⟩; clear hK K)
                   | (apply Exists.intro
                      refine ⟨fun w' hw' => ?_, hK _ ?_⟩
                      · (obtain ⟨hc', hf'⟩ := bcell hw'
                         first
                           | (go_simp; rfl)
                           | (go_at_call 27; refine (rIMay_yes _ _ _ _ _ _ hi).mono ?_; rintro e w3 ⟨rfl, hb3⟩; exact ⟨rfl, hw'.on hb3⟩))
                      clear hK K)))
            refine wpQuiet_nil ?_
            intro wc hc0
            go_wp2
            go_roundw
            case rel => exact ⟨m + 1 + 1, by omega, by go_num, hj'.out, hbel.on hc0⟩
            case measure => simp [intOf]; omega
          · have hrf : r = false := by
              cases r with
              | false => rfl
              | true => exact absurd (((hr.1 rfl).1 (m + 1) hlt).2 (by omega)) hlk
            subst hrf
            have hd1 : (g (m + 1)).k ≤ (g m).k := by omega
            clear hj hr h1 hp hlk
            generalize (g m).k = y at *
            generalize g (m + 1) = z at c1 c2 c3 c4 c5 hi hd1
            obtain ⟨zk, zc, zu, zx, zg⟩ := z
            dsimp only at c1 c2 c3 c4 c5 hd1
            go_wp2
            refine wp_region_below (by kernel_rfl) (by kernel_rfl) ?_
            repeat (first
              | go_big_quiet_skip
              | (go_big_quiet_want; go_big_quiet_op; go_big_quiet_on)
              | (refine wpQuiet_step (fun K hK => ?_)
                 go_simp
                 first
                   | (refine hK _ ?_; clear hK K)
                   | (refine ⟨_, fun w' hw' => rfl, hK _ ?_⟩; clear hK K)
                   | (apply Exists.intro
                      refine ⟨fun w' hw' => ?_, hK _ ?_⟩
                      · (obtain ⟨hc', hf'⟩ := bcell hw'
                         first
                           | (go_simp; rfl)
                           | (go_at_call 27; refine (rIMay_yes _ _ _ _ _ _ hi).mono ?_; rintro e w3 ⟨rfl, hb3⟩; exact ⟨rfl, hw'.on hb3⟩))
                      clear hK K)))
            refine wpQuiet_nil ?_
            intro wc hc0
            go_wp2
            go_ret
            exact ⟨rfl, hbel.on hc0⟩
        · have hrf : r = false := by
            cases r with
            | false => rfl
            | true => have := ((hr.1 rfl).1 (m + 1) hlt).1; rw [hi] at this; cases this
          subst hrf
          clear hj hr h1 hp c6
          generalize g (m + 1) = z at c1 c2 c3 c4 c5 hi
          obtain ⟨zk, zc, zu, zx, zg⟩ := z
          dsimp only at c1 c2 c3 c4 c5
          go_wp2
          refine wp_region_below (by kernel_rfl) (by kernel_rfl) ?_
          repeat (first
            | go_big_quiet_skip
            | (go_big_quiet_want; go_big_quiet_op; go_big_quiet_on)
            | (refine wpQuiet_step (fun K hK => ?_)
               go_simp
               first
                 | (refine hK _ ?_; clear hK K)
                 | (refine ⟨_, fun w' hw' => rfl, hK _ ?_⟩; clear hK K)
                 | (apply Exists.intro
                    refine ⟨fun w' hw' => ?_, hK _ ?_⟩
                    · (obtain ⟨hc', hf'⟩ := bcell hw'
                       first
                         | (go_simp; rfl)
                         | (go_at_call 27; refine (rIMay_no _ _ _ _ _ _ hi).mono ?_; rintro e w3 ⟨rfl, hb3⟩; exact ⟨rfl, hw'.on hb3⟩))
                    clear hK K)))
          refine wpQuiet_nil ?_
          intro wc hc0
          go_wp2
          go_ret
          exact ⟨rfl, hbel.on hc0⟩
    · have hrt : r = decide ((n : Int) ≤ 16) := by
        rw [Bool.eq_iff_iff, hr, decide_eq_true_iff]
        constructor
        · intro h; omega
        · intro h; exact ⟨fun j hjn => hj j (by omega), by omega⟩
      subst hrt
      go_wp2
      go_ret
      exact ⟨rfl, hbel⟩

theorem rStoreMay_any {lo hi : Nat} {w : World} {v : Value} {xs : List It} (hx : RowT lo hi w v xs) (hh : hi ≤ w.heap.size) :
    Calls Try.prog 30 #[v] w fun e w' => e = .returned (.bool (stB xs)) ∧ Below w.heap.size w w' := by
  obtain ⟨p, c, rfl, hn, hp⟩ := hx.its hh
  refine rStoreMay_core p xs.length c (fun j => xs.getD j ⟨0, 0, 0, 0, false⟩) w hn (fun h0 => ?_) _ (stB_at xs)
  obtain ⟨b, off, e, _, h2, h3⟩ := hp h0
  exact ⟨b, off, e, h2, h3⟩


end Go.Proofs.Ytghamcomjfholaa
