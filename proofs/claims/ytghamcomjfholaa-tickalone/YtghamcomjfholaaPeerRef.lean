
/-
  Contracts of the document's own answers about peers (may they be; who is heard; who is left, who is lost), at every list of peers.
-/
import Derived.Test.YtghamcomjfholaaPeerC
import Derived.Test.YtghamcomjfholaaVer
import Derived.Test.YtghamcomjfholaaIntRow
import Derived.Test.YtghamcomjfholaaRingRef
import Derived.Test.YtghamcomjfholaaOld
import Derived.Deep.RegionHeld3
namespace Go.Proofs.Ytghamcomjfholaa
open Go.ChangeShapes Go.WideShapes Go.ChangeAt Go.RowKit

/-- The document's distance, at whatever ints. -/
def rfv (a b : Int) : Int := (wrap64 (wrap64 (b - a) + 256)).tmod 256
theorem rfv_far {a b : Int} (ha : plB a = true) (hb : plB b = true) : rfv a b = far a b := by
  have := plB_yes ha
  have := plB_yes hb
  unfold rfv far
  have e1 : wrap64 (b - a) = b - a := by unfold wrap64; omega
  have e2 : wrap64 (b - a + 256) = b - a + 256 := w64_in _ (by omega)
  rw [e1, e2, Int.tmod_eq_emod_of_nonneg (by omega)]
theorem rfar_all (a b : Int) (w : World) : Calls Try.prog 66 #[.int .i64 a, .int .i64 b] w fun e w' => e = .returned (.int .i64 (rfv a b)) ∧ w' = w := by
  go_enter Try.func66, Try.ntmps66
  go_wp2
  go_ret
  exact ⟨rfl, rfl⟩
theorem rfar_some : ∃ f : Int → Int → Int, Hid (∀ a b (w : World), Calls Try.prog 66 #[.int .i64 a, .int .i64 b] w fun e w' => e = .returned (.int .i64 (f a b)) ∧ w' = w) ∧ (∀ a b, plB a = true → plB b = true → f a b = far a b) :=
  ⟨rfv, rfar_all, fun _ _ => rfv_far⟩

set_option maxHeartbeats 4000000 in
theorem rPMay_core (p : Option Addr) (n c : Nat) (g : Nat → Pe) (b0 : Int) (f : Int → Int → Int) (w : World) (hn : n ≤ 9223372036854775807)
    (hF : Hid (∀ a b (w : World), Calls Try.prog 66 #[.int .i64 a, .int .i64 b] w fun e w' => e = .returned (.int .i64 (f a b)) ∧ w' = w))
    (hp : 0 < n → ∃ b off, p = some ⟨b, off, none⟩ ∧ b < w.heap.size ∧ ∀ j, j < n → PeAt w b (off + j * 2) (g j))
    (r : Bool) (hr : r = true ↔ (∀ j, j < n → peB b0 (g j) = true ∧ (0 < j → f b0 (g (j - 1)).n < f b0 (g j).n)) ∧ plB b0 = true ∧ n ≤ 16) :
    Calls Try.prog 47 #[.int .i64 b0, .slice p n c] w fun e w' => e = .returned (.bool r) ∧ Below w.heap.size w w' := by
  go_enter Try.func47, Try.ntmps47
  go_wp2
  go_loopw [5] (fun i wr => ∃ k : Nat, k ≤ n ∧ i = .int .i64 k ∧ (∀ j, j < k → peB b0 (g j) = true ∧ (0 < j → f b0 (g (j - 1)).n < f b0 (g j).n)) ∧ Below w.heap.size w wr) (fun i _ => n - (intOf i).toNat)
  case atStart => exact ⟨0, Nat.zero_le _, rfl, fun j hj => absurd hj (Nat.not_lt_zero _), Below.refl _ _⟩
  case round =>
    obtain ⟨k, hk, rfl, hj, hbel⟩ := hrel
    by_cases hlt : k < n
    · obtain ⟨b, off, rfl, hb, h1⟩ := hp (by omega)
      obtain ⟨c1, c2⟩ := (h1 k hlt).below hbel hb
      have hlt' : (k : Int) < (n : Int) := by omega
      have hbw : b < wr.heap.size := Nat.lt_of_lt_of_le hb hbel.size
      rcases Bool.eq_false_or_eq_true (plB (g k).n) with hi | hi
      · by_cases h2 : (g k).n = b0
        · have hbad : ¬ (peB b0 (g k) = true ∧ (0 < k → f b0 (g (k - 1)).n < f b0 (g k).n)) := fun h => (peB_iff.1 h.1).2.1 h2
          have hrf : r = false := by
            cases r with
            | false => rfl
            | true => exact absurd ((hr.1 rfl).1 k hlt) hbad
          subst hrf
          clear hj hr hbad h1 hp
          generalize g k = z at c1 c2 hi h2
          obtain ⟨zn, zm⟩ := z
          dsimp only at c1 c2 hi h2
          subst h2
          go_wp2
          refine wp_region_below (by kernel_rfl) (by kernel_rfl) ?_
          repeat (first
            | go_big_quiet_skip
            | (go_big_quiet_want; go_big_quiet_op; go_big_quiet_on)
            | (refine wpQuiet_step (fun K hK => ?_)
               go_simp
               first
                 | (refine hK _ ?_; clear hK K)
                 | (refine ⟨_, fun w' hw' => rfl, hK _ ?_⟩; clear hK K)
                 | (apply Exists.intro
                    refine ⟨fun w' hw' => ?_, hK _ ?_⟩
                    · (obtain ⟨hc', hf'⟩ := bcell hw'
                       first
                         | (go_simp; rfl)
                         | (go_at_call 25; refine (rPlaceMay_any _ _).mono ?_; rintro e w3 ⟨rfl, hw3⟩; subst w3; exact ⟨rfl, hw'⟩)
                         | (go_at_call 66; refine (hF.out _ _ _).mono ?_; rintro e w3 ⟨rfl, hw3⟩; subst w3; exact ⟨rfl, hw'⟩))
                    clear hK K)))
          refine wpQuiet_nil ?_
          intro wc hc0
          go_wp2
          go_ret
          exact ⟨rfl, hbel.on hc0⟩
        · have h3 : ((g k).n == b0) = false := by simpa using h2
          by_cases h4 : (g k).m < 0
          · have hbad : ¬ (peB b0 (g k) = true ∧ (0 < k → f b0 (g (k - 1)).n < f b0 (g k).n)) := fun h => by have := miB_yes (peB_iff.1 h.1).2.2; omega
            have hrf : r = false := by
              cases r with
              | false => rfl
              | true => exact absurd ((hr.1 rfl).1 k hlt) hbad
            subst hrf
            clear hj hr hbad h1 hp
            generalize g k = z at c1 c2 hi h2 h3 h4
            obtain ⟨zn, zm⟩ := z
            dsimp only at c1 c2 hi h2 h3 h4
            have h5 : decide (zm < 0) = true := decide_eq_true h4
            go_wp2
            refine wp_region_below (by kernel_rfl) (by kernel_rfl) ?_
            repeat (first
              | go_big_quiet_skip
              | (go_big_quiet_want; go_big_quiet_op; go_big_quiet_on)
              | (refine wpQuiet_step (fun K hK => ?_)
                 go_simp
                 first
                   | (refine hK _ ?_; clear hK K)
                   | (refine ⟨_, fun w' hw' => rfl, hK _ ?_⟩; clear hK K)
                   | (apply Exists.intro
                      refine ⟨fun w' hw' => ?_, hK _ ?_⟩
                      · (obtain ⟨hc', hf'⟩ := bcell hw'
                         first
                           | (go_simp; rfl)
                           | (go_at_call 25; refine (rPlaceMay_any _ _).mono ?_; rintro e w3 ⟨rfl, hw3⟩; subst w3; exact ⟨rfl, hw'⟩)
                           | (go_at_call 66; refine (hF.out _ _ _).mono ?_; rintro e w3 ⟨rfl, hw3⟩; subst w3; exact ⟨rfl, hw'⟩))
                      clear hK K)))
            refine wpQuiet_nil ?_
            intro wc hc0
            go_wp2
            go_ret
            exact ⟨rfl, hbel.on hc0⟩
          · by_cases h6 : 3 ≤ (g k).m
            · have hbad : ¬ (peB b0 (g k) = true ∧ (0 < k → f b0 (g (k - 1)).n < f b0 (g k).n)) := fun h => by have := miB_yes (peB_iff.1 h.1).2.2; omega
              have hrf : r = false := by
                cases r with
                | false => rfl
                | true => exact absurd ((hr.1 rfl).1 k hlt) hbad
              subst hrf
              clear hj hr hbad h1 hp
              generalize g k = z at c1 c2 hi h2 h3 h4 h6
              obtain ⟨zn, zm⟩ := z
              dsimp only at c1 c2 hi h2 h3 h4 h6
              have h5 : decide (zm < 0) = false := decide_eq_false h4
              have h7 : decide (3 ≤ zm) = true := decide_eq_true h6
              go_wp2
              refine wp_region_below (by kernel_rfl) (by kernel_rfl) ?_
              repeat (first
                | go_big_quiet_skip
                | (go_big_quiet_want; go_big_quiet_op; go_big_quiet_on)
                | (refine wpQuiet_step (fun K hK => ?_)
                   go_simp
                   first
                     | (refine hK _ ?_; clear hK K)
                     | (refine ⟨_, fun w' hw' => rfl, hK _ ?_⟩; clear hK K)
                     | (apply Exists.intro
                        refine ⟨fun w' hw' => ?_, hK _ ?_⟩
                        · (obtain ⟨hc', hf'⟩ := bcell hw'
                           first
                             | (go_simp; rfl)
                             | (go_at_call 25; refine (rPlaceMay_any _ _).mono ?_; rintro e w3 ⟨rfl, hw3⟩; subst w3; exact ⟨rfl, hw'⟩)
                             | (go_at_call 66; refine (hF.out _ _ _).mono ?_; rintro e w3 ⟨rfl, hw3⟩; subst w3; exact ⟨rfl, hw'⟩))
                        clear hK K)))
              refine wpQuiet_nil ?_
              intro wc hc0
              go_wp2
              go_ret
              exact ⟨rfl, hbel.on hc0⟩
            · have hok : peB b0 (g k) = true := peB_iff.2 ⟨hi, h2, by simp only [miB, decide_eq_true_iff]; omega⟩
              rcases k with _ | m
              · have hj' : Hid (∀ j, j < 0 + 1 → peB b0 (g j) = true ∧ (0 < j → f b0 (g (j - 1)).n < f b0 (g j).n)) := toHid fun j hjk => by
                  have e : j = 0 := by omega
                  rw [e]
                  exact ⟨hok, fun h => absurd h (by omega)⟩
                simp only [Nat.zero_mul, Nat.add_zero] at c1 c2
                clear hj hr h1 hp
                generalize g 0 = z at c1 c2 hi h2 h3 h4 h6 hok
                obtain ⟨zn, zm⟩ := z
                dsimp only at c1 c2 hi h2 h3 h4 h6
                clear hok
                have h5 : decide (zm < 0) = false := decide_eq_false h4
                have h7 : decide (3 ≤ zm) = false := decide_eq_false h6
                go_wp2
                refine wp_region_below (by kernel_rfl) (by kernel_rfl) ?_
                repeat (first
                  | go_big_quiet_skip
                  | (go_big_quiet_want; go_big_quiet_op; go_big_quiet_on)
                  | (refine wpQuiet_step (fun K hK => ?_)
                     go_simp
                     first
                       | (refine hK _ ?_; clear hK K)
                       | (refine ⟨_, fun w' hw' => rfl, hK _ ?_⟩; clear hK K)
                       | (apply Exists.intro
                          refine ⟨fun w' hw' => ?_, hK _ ?_⟩
                          · (obtain ⟨hc', hf'⟩ := bcell hw'
                             first
                               | (go_simp; rfl)
                               | (go_at_call 25; refine (rPlaceMay_any _ _).mono ?_; rintro e w3 ⟨rfl, hw3⟩; subst w3; exact ⟨rfl, hw'⟩)
                               | (go_at_call 66; refine (hF.out _ _ _).mono ?_; rintro e w3 ⟨rfl, hw3⟩; subst w3; exact ⟨rfl, hw'⟩))
                          clear hK K)))
                refine wpQuiet_nil ?_
                intro wc hc0
                go_wp2
                go_roundw
                case rel => exact ⟨0 + 1, by omega, by go_num, hj'.out, hbel.on hc0⟩
                case measure => simp [intOf]; omega
              · obtain ⟨d1, d2⟩ := (h1 m (by omega)).below hbel hb
                have hlt2 : (m : Int) < (n : Int) := by omega
                have hlt1 : (m : Int) + 1 < (n : Int) := by omega
                have hk1 : (0 : Int) ≤ (m : Int) + 1 := by omega
                have hm4 : IntKind.i64.wrap (m : Int) = (m : Int) := by rw [IntKind.wrap_i64]; omega
                clear hlt'
                have hm0 : (0 : Int) < (m : Int) + 1 := by omega
                by_cases h8 : f b0 (g m).n < f b0 (g (m + 1)).n
                · have hj' : Hid (∀ j, j < m + 1 + 1 → peB b0 (g j) = true ∧ (0 < j → f b0 (g (j - 1)).n < f b0 (g j).n)) := toHid fun j hjk => by
                    by_cases e : j = m + 1
                    · rw [e]; exact ⟨hok, fun _ => h8⟩
                    · exact hj j (by omega)
                  clear hj hr h1 hp
                  clear hok
                  generalize g (m + 1) = z at c1 c2 hi h2 h3 h4 h6 h8
                  generalize g m = y at d1 d2 h8
                  obtain ⟨zn, zm⟩ := z
                  obtain ⟨yn, ym⟩ := y
                  dsimp only at c1 c2 d1 d2 hi h2 h3 h4 h6 h8
                  have h5 : decide (zm < 0) = false := decide_eq_false h4
                  have h7 : decide (3 ≤ zm) = false := decide_eq_false h6
                  have h9 : ¬ f b0 zn ≤ f b0 yn := by omega
                  have h10 : decide (f b0 zn ≤ f b0 yn) = false := decide_eq_false h9
                  go_wp2
                  refine wp_region_below (by kernel_rfl) (by kernel_rfl) ?_
                  repeat (first
                    | go_big_quiet_skip
                    | (go_big_quiet_want; go_big_quiet_op; go_big_quiet_on)
                    | (refine wpQuiet_step (fun K hK => ?_)
                       go_simp
                       first
                         | (refine hK _ ?_; clear hK K)
                         | (refine ⟨_, fun w' hw' => rfl, hK _ ?_⟩; clear hK K)
                         | (apply Exists.intro
                            refine ⟨fun w' hw' => ?_, hK _ ?_⟩
                            · (obtain ⟨hc', hf'⟩ := bcell hw'
                               first
                                 | (go_simp; rfl)
                                 | (go_at_call 25; refine (rPlaceMay_any _ _).mono ?_; rintro e w3 ⟨rfl, hw3⟩; subst w3; exact ⟨rfl, hw'⟩)
                                 | (go_at_call 66; refine (hF.out _ _ _).mono ?_; rintro e w3 ⟨rfl, hw3⟩; subst w3; exact ⟨rfl, hw'⟩))
                            clear hK K)))
                  refine wpQuiet_nil ?_
                  intro wc hc0
                  go_wp2
                  go_roundw
                  case rel => exact ⟨m + 1 + 1, by omega, by go_num, hj'.out, hbel.on hc0⟩
                  case measure => simp [intOf]; omega
                · have hbad : ¬ (peB b0 (g (m + 1)) = true ∧ (0 < m + 1 → f b0 (g (m + 1 - 1)).n < f b0 (g (m + 1)).n)) := fun h => h8 (h.2 (by omega))
                  have hrf : r = false := by
                    cases r with
                    | false => rfl
                    | true => exact absurd ((hr.1 rfl).1 (m + 1) hlt) hbad
                  subst hrf
                  clear hj hr hbad h1 hp
                  clear hok
                  generalize g (m + 1) = z at c1 c2 hi h2 h3 h4 h6 h8
                  generalize g m = y at d1 d2 h8
                  obtain ⟨zn, zm⟩ := z
                  obtain ⟨yn, ym⟩ := y
                  dsimp only at c1 c2 d1 d2 hi h2 h3 h4 h6 h8
                  have h5 : decide (zm < 0) = false := decide_eq_false h4
                  have h7 : decide (3 ≤ zm) = false := decide_eq_false h6
                  have h9 : f b0 zn ≤ f b0 yn := by omega
                  have h10 : decide (f b0 zn ≤ f b0 yn) = true := decide_eq_true h9
                  go_wp2
                  refine wp_region_below (by kernel_rfl) (by kernel_rfl) ?_
                  repeat (first
                    | go_big_quiet_skip
                    | (go_big_quiet_want; go_big_quiet_op; go_big_quiet_on)
                    | (refine wpQuiet_step (fun K hK => ?_)
                       go_simp
                       first
                         | (refine hK _ ?_; clear hK K)
                         | (refine ⟨_, fun w' hw' => rfl, hK _ ?_⟩; clear hK K)
                         | (apply Exists.intro
                            refine ⟨fun w' hw' => ?_, hK _ ?_⟩
                            · (obtain ⟨hc', hf'⟩ := bcell hw'
                               first
                                 | (go_simp; rfl)
                                 | (go_at_call 25; refine (rPlaceMay_any _ _).mono ?_; rintro e w3 ⟨rfl, hw3⟩; subst w3; exact ⟨rfl, hw'⟩)
                                 | (go_at_call 66; refine (hF.out _ _ _).mono ?_; rintro e w3 ⟨rfl, hw3⟩; subst w3; exact ⟨rfl, hw'⟩))
                            clear hK K)))
                  refine wpQuiet_nil ?_
                  intro wc hc0
                  go_wp2
                  go_ret
                  exact ⟨rfl, hbel.on hc0⟩
      · have hbad : ¬ (peB b0 (g k) = true ∧ (0 < k → f b0 (g (k - 1)).n < f b0 (g k).n)) := fun h => by rw [(peB_iff.1 h.1).1] at hi; cases hi
        have hrf : r = false := by
          cases r with
          | false => rfl
          | true => exact absurd ((hr.1 rfl).1 k hlt) hbad
        subst hrf
        clear hj hr hbad h1 hp
        generalize g k = z at c1 c2 hi
        obtain ⟨zn, zm⟩ := z
        dsimp only at c1 c2 hi
        go_wp2
        refine wp_region_below (by kernel_rfl) (by kernel_rfl) ?_
        repeat (first
          | go_big_quiet_skip
          | (go_big_quiet_want; go_big_quiet_op; go_big_quiet_on)
          | (refine wpQuiet_step (fun K hK => ?_)
             go_simp
             first
               | (refine hK _ ?_; clear hK K)
               | (refine ⟨_, fun w' hw' => rfl, hK _ ?_⟩; clear hK K)
               | (apply Exists.intro
                  refine ⟨fun w' hw' => ?_, hK _ ?_⟩
                  · (obtain ⟨hc', hf'⟩ := bcell hw'
                     first
                       | (go_simp; rfl)
                       | (go_at_call 25; refine (rPlaceMay_any _ _).mono ?_; rintro e w3 ⟨rfl, hw3⟩; subst w3; exact ⟨rfl, hw'⟩)
                       | (go_at_call 66; refine (hF.out _ _ _).mono ?_; rintro e w3 ⟨rfl, hw3⟩; subst w3; exact ⟨rfl, hw'⟩))
                  clear hK K)))
        refine wpQuiet_nil ?_
        intro wc hc0
        go_wp2
        go_ret
        exact ⟨rfl, hbel.on hc0⟩
    · have hall : ∀ j, j < n → peB b0 (g j) = true ∧ (0 < j → f b0 (g (j - 1)).n < f b0 (g j).n) := fun j hjn => hj j (by omega)
      rcases Bool.eq_false_or_eq_true (plB b0) with hb | hb
      · by_cases h16 : n ≤ 16
        · have hrt : r = true := hr.2 ⟨hall, hb, h16⟩
          subst hrt
          have hl1 : (n : Int) ≤ 16 := by omega
          have hl2 : decide ((n : Int) ≤ 16) = true := decide_eq_true hl1
          clear hall hj hr hp
          go_wp2_with (first | (go_at_call 25; refine (rPlaceMay_any _ _).mono ?_; rintro e w' ⟨rfl, hw'⟩; subst w'))
          go_ret
          exact ⟨rfl, hbel⟩
        · have hrf : r = false := by rw [Bool.eq_false_iff]; intro h; exact h16 (hr.1 h).2.2
          subst hrf
          have hl1 : ¬ (n : Int) ≤ 16 := by omega
          have hl2 : decide ((n : Int) ≤ 16) = false := decide_eq_false hl1
          clear hall hj hr hp
          go_wp2_with (first | (go_at_call 25; refine (rPlaceMay_any _ _).mono ?_; rintro e w' ⟨rfl, hw'⟩; subst w'))
          go_ret
          exact ⟨rfl, hbel⟩
      · have hrf : r = false := by rw [Bool.eq_false_iff]; intro h; rw [(hr.1 h).2.1] at hb; cases hb
        subst hrf
        clear hall hj hr hp
        go_wp2_with (first | (go_at_call 25; refine (rPlaceMay_any _ _).mono ?_; rintro e w' ⟨rfl, hw'⟩; subst w'))
        go_ret
        exact ⟨rfl, hbel⟩

theorem rPMay_any {lo hi : Nat} {w : World} {v : Value} {xs : List Pe} (hx : RowP lo hi w v xs) (hh : hi ≤ w.heap.size) (b : Int) :
    Calls Try.prog 47 #[.int .i64 b, v] w fun e w' => e = .returned (.bool (psB b xs)) ∧ Below w.heap.size w w' := by
  obtain ⟨p, c, rfl, hn, hp⟩ := hx.pes hh
  obtain ⟨f, hF, hf⟩ := rfar_some
  exact rPMay_core p xs.length c (fun j => xs.getD j ⟨0, 0⟩) b f w hn hF (fun h0 => by obtain ⟨b, off, e, _, h2, h3⟩ := hp h0; exact ⟨b, off, e, h2, h3⟩) _ (psB_at b xs (f b) (fun h x hx => hf b x h hx))
theorem rPMay_is {lo hi : Nat} {w : World} {v : Value} {xs : List Pe} (hx : RowP lo hi w v xs) (hh : hi ≤ w.heap.size) {b : Int} {r : Bool} (h : psB b xs = r) :
    Calls Try.prog 47 #[.int .i64 b, v] w fun e w' => e = .returned (.bool r) ∧ Below w.heap.size w w' := h ▸ rPMay_any hx hh b

end Go.Proofs.Ytghamcomjfholaa
