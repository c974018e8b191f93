
/-
  Contracts of the document's own answers on cuts: which may be; whether one is there; with one more, without one.
-/
import Derived.Test.YtnbnnbcjlfdlpaaCutMath
import Derived.Test.YtnbnnbcjlfdlpaaCutRow
import Derived.Test.YtnbnnbcjlfdlpaaRingRef
import Derived.Test.YtnbnnbcjlfdlpaaCalm
import Derived.Test.YtnbnnbcjlfdlpaaOld
import Derived.BigRegion
namespace Go.Proofs.Ytnbnnbcjlfdlpaa
open Go.ChangeShapes Go.WideShapes Go.ChangeAt Go.RowKit

theorem upC_at (cs : List Cu) : UpC cs ↔ ∀ j, j + 1 < cs.length → cuK (cs.getD j ⟨0, 0⟩) < cuK (cs.getD (j + 1) ⟨0, 0⟩) := by
  constructor
  · intro h j hj
    rw [getD_in _ _ (by omega), getD_in _ _ hj]
    exact List.pairwise_iff_getElem.1 h j (j + 1) (by omega) hj (by omega)
  · intro h
    refine List.pairwise_iff_getElem.2 fun i j hi hj hij => ?_
    have key : ∀ d, i + 1 + d < cs.length → cuK (cs.getD i ⟨0, 0⟩) < cuK (cs.getD (i + 1 + d) ⟨0, 0⟩) := by
      intro d
      induction d with
      | zero => intro hd; exact h i hd
      | succ d ih =>
        intro hd
        have h1 := ih (by omega)
        have h2 : cuK (cs.getD (i + 1 + d) ⟨0, 0⟩) < cuK (cs.getD (i + 1 + (d + 1)) ⟨0, 0⟩) := h (i + 1 + d) (by omega)
        omega
    have := key (j - i - 1) (by omega)
    rw [show i + 1 + (j - i - 1) = j by omega, getD_in _ _ hi, getD_in _ _ hj] at this
    exact this
theorem wmul {a : Int} (h : 0 ≤ a ∧ a < 256) : IntKind.i64.wrap (a * 256) = a * 256 := by rw [IntKind.wrap_i64]; omega
theorem wadd {a b : Int} (h : 0 ≤ a ∧ a < 256) (h2 : 0 ≤ b ∧ b < 256) : IntKind.i64.wrap (a * 256 + b) = a * 256 + b := by rw [IntKind.wrap_i64]; omega

set_option maxHeartbeats 4000000 in
theorem rCutsMay_core (p : Option Addr) (n c : Nat) (g : Nat → Cu) (w : World) (hn : n ≤ 9223372036854775807)
    (hp : 0 < n → ∃ b off, p = some ⟨b, off, none⟩ ∧ b < w.heap.size ∧ ∀ j, j < n → CuAt w b (off + j * 2) (g j))
    (r : Bool) (hr : r = true ↔ ((∀ j, j < n → cuB (g j) = true) ∧ ∀ j, j + 1 < n → cuK (g j) < cuK (g (j + 1))) ∧ n ≤ 32) :
    Calls Try.prog 17 #[.slice p n c] w fun e w' => e = .returned (.bool r) ∧ Below w.heap.size w w' := by
  go_enter Try.func17, Try.ntmps17
  go_wp2
  go_loopw [3] (fun i wr => ∃ k : Nat, k ≤ n ∧ i = .int .i64 k ∧ ((∀ j, j < k → cuB (g j) = true) ∧ ∀ j, j + 1 < k → cuK (g j) < cuK (g (j + 1))) ∧ Below w.heap.size w wr) (fun i _ => n - (intOf i).toNat)
  case atStart => exact ⟨0, Nat.zero_le _, rfl, ⟨fun j hj => absurd hj (Nat.not_lt_zero _), fun j hj => absurd hj (Nat.not_lt_zero _)⟩, Below.refl _ _⟩
  case round =>
    obtain ⟨k, hk, rfl, hj, hbel⟩ := hrel
    by_cases hlt : k < n
    · obtain ⟨b, off, rfl, hb, h1⟩ := hp (by omega)
      obtain ⟨c1, c2⟩ := (h1 k hlt).below hbel hb
      have hlt' : (k : Int) < (n : Int) := by omega
      have hk0 : 0 ≤ (k : Int) := by omega
      have hbw : b < wr.heap.size := Nat.lt_of_lt_of_le hb hbel.size
      rcases Bool.eq_false_or_eq_true (plB (g k).a) with ha | ha
      · rcases Bool.eq_false_or_eq_true (plB (g k).b) with hb2 | hb2
        · by_cases hab : (g k).a < (g k).b
          · have hz : cuB (g k) = true := by simp [cuB, ha, hb2, hab]
            have hd1 : decide ((g k).b ≤ (g k).a) = false := decide_eq_false (by omega)
            have hd2 : ¬ (g k).b ≤ (g k).a := by omega
            rcases Nat.eq_zero_or_pos k with rfl | hkp
            · have hall : Hid ((∀ j, j < 0 + 1 → cuB (g j) = true) ∧ ∀ j, j + 1 < 0 + 1 → cuK (g j) < cuK (g (j + 1))) := toHid (by
                refine ⟨fun j h => ?_, fun j h => by omega⟩
                obtain rfl : j = 0 := by omega
                exact hz)
              rw [Nat.zero_mul, Nat.add_zero] at c1 c2
              clear hz
              clear hj hr h1 hp
              generalize g 0 = z at *
              obtain ⟨za, zb⟩ := z
              dsimp only at *
              go_wp2
              refine wp_region_below (by kernel_rfl) (by kernel_rfl) ?_
              repeat (first
                | go_big_quiet_skip
                | (go_big_quiet_want; go_big_quiet_op; go_big_quiet_on)
                | (refine wpQuiet_step (fun K hK => ?_)
                   go_simp
                   first
                     | (refine hK _ ?_; clear hK K)
                     | (refine ⟨_, fun w' hw' => rfl, hK _ ?_⟩; clear hK K)
                     | (apply Exists.intro
                        refine ⟨fun w' hw' => ?_, hK _ ?_⟩
                        · (obtain ⟨hc', hf'⟩ := bcell hw'
                           first
                             | (go_simp; rfl)
                             | (go_at_call 28; refine (rPlaceMay_any _ _).mono ?_; rintro e w3 ⟨rfl, hw3⟩; subst w3; exact ⟨rfl, hw'⟩))
                        clear hK K)))
              refine wpQuiet_nil ?_
              intro wc hc0
              go_wp2
              go_roundw
              case rel => exact ⟨0 + 1, by omega, by go_num, hall.out, hbel.on hc0⟩
              case measure => simp [intOf]; omega
            · obtain ⟨m, rfl⟩ : ∃ m, k = m + 1 := ⟨k - 1, by omega⟩
              obtain ⟨d1, d2⟩ := (h1 m (by omega)).below hbel hb
              have hm1 : (m : Int) < (n : Int) := by omega
              have hm0 : 0 ≤ (m : Int) := by omega
              have hm2 : (m : Int) + 1 < (n : Int) := by omega
              have hm3 : 0 ≤ (m : Int) + 1 := by omega
              have hm4 : IntKind.i64.wrap (m : Int) = (m : Int) := by rw [IntKind.wrap_i64]; omega
              have hy := cu_in (hj.1 m (by omega))
              have hzi := cu_in hz
              have e1 := wmul hy.1
              have e2 := wadd hy.1 hy.2.1
              have e3 := wmul hzi.1
              have e4 := wadd hzi.1 hzi.2.1
              by_cases hup : cuK (g m) < cuK (g (m + 1))
              · have hall : Hid ((∀ j, j < m + 1 + 1 → cuB (g j) = true) ∧ ∀ j, j + 1 < m + 1 + 1 → cuK (g j) < cuK (g (j + 1))) := toHid (by
                  refine ⟨fun j h => ?_, fun j h => ?_⟩
                  · by_cases e : j = m + 1
                    · rw [e]; exact hz
                    · exact hj.1 j (by omega)
                  · by_cases e : j = m
                    · rw [e]; exact hup
                    · exact hj.2 j (by omega))
                have hd3 : decide ((g (m + 1)).a * 256 + (g (m + 1)).b ≤ (g m).a * 256 + (g m).b) = false := decide_eq_false (by unfold cuK at hup; omega)
                have hd4 : ¬ (g (m + 1)).a * 256 + (g (m + 1)).b ≤ (g m).a * 256 + (g m).b := by unfold cuK at hup; omega
                clear hz hup hy hzi
                clear hj hr h1 hp
                generalize g (m + 1) = z at *
                generalize g m = y at *
                obtain ⟨za, zb⟩ := z
                obtain ⟨ya, yb⟩ := y
                dsimp only at *
                go_wp2
                refine wp_region_below (by kernel_rfl) (by kernel_rfl) ?_
                repeat (first
                  | go_big_quiet_skip
                  | (go_big_quiet_want; go_big_quiet_op; go_big_quiet_on)
                  | (refine wpQuiet_step (fun K hK => ?_)
                     go_simp
                     first
                       | (refine hK _ ?_; clear hK K)
                       | (refine ⟨_, fun w' hw' => rfl, hK _ ?_⟩; clear hK K)
                       | (apply Exists.intro
                          refine ⟨fun w' hw' => ?_, hK _ ?_⟩
                          · (obtain ⟨hc', hf'⟩ := bcell hw'
                             first
                               | (go_simp; rfl)
                               | (go_at_call 28; refine (rPlaceMay_any _ _).mono ?_; rintro e w3 ⟨rfl, hw3⟩; subst w3; exact ⟨rfl, hw'⟩))
                          clear hK K)))
                refine wpQuiet_nil ?_
                intro wc hc0
                go_wp2
                go_roundw
                case rel => exact ⟨m + 1 + 1, by omega, by go_num, hall.out, hbel.on hc0⟩
                case measure => simp [intOf]; omega
              · have hbad : ¬ (((∀ j, j < n → cuB (g j) = true) ∧ ∀ j, j + 1 < n → cuK (g j) < cuK (g (j + 1))) ∧ n ≤ 32) := fun h => hup (h.1.2 m (by omega))
                have hd3 : decide ((g (m + 1)).a * 256 + (g (m + 1)).b ≤ (g m).a * 256 + (g m).b) = true := decide_eq_true (by unfold cuK at hup; omega)
                have hd4 : (g (m + 1)).a * 256 + (g (m + 1)).b ≤ (g m).a * 256 + (g m).b := by unfold cuK at hup; omega
                clear hz hup hy hzi
                have hrf : r = false := by
                  cases r with
                  | false => rfl
                  | true => exact absurd (hr.1 rfl) hbad
                subst hrf
                clear hj hr hbad h1 hp
                generalize g (m + 1) = z at *
                generalize g m = y at *
                obtain ⟨za, zb⟩ := z
                obtain ⟨ya, yb⟩ := y
                dsimp only at *
                go_wp2
                refine wp_region_below (by kernel_rfl) (by kernel_rfl) ?_
                repeat (first
                  | go_big_quiet_skip
                  | (go_big_quiet_want; go_big_quiet_op; go_big_quiet_on)
                  | (refine wpQuiet_step (fun K hK => ?_)
                     go_simp
                     first
                       | (refine hK _ ?_; clear hK K)
                       | (refine ⟨_, fun w' hw' => rfl, hK _ ?_⟩; clear hK K)
                       | (apply Exists.intro
                          refine ⟨fun w' hw' => ?_, hK _ ?_⟩
                          · (obtain ⟨hc', hf'⟩ := bcell hw'
                             first
                               | (go_simp; rfl)
                               | (go_at_call 28; refine (rPlaceMay_any _ _).mono ?_; rintro e w3 ⟨rfl, hw3⟩; subst w3; exact ⟨rfl, hw'⟩))
                          clear hK K)))
                refine wpQuiet_nil ?_
                intro wc hc0
                go_wp2
                go_ret
                exact ⟨rfl, hbel.on hc0⟩
          · have hbad : ¬ (((∀ j, j < n → cuB (g j) = true) ∧ ∀ j, j + 1 < n → cuK (g j) < cuK (g (j + 1))) ∧ n ≤ 32) := fun h => hab (cu_in (h.1.1 k hlt)).2.2
            have hd1 : decide ((g k).b ≤ (g k).a) = true := decide_eq_true (by omega)
            have hd2 : (g k).b ≤ (g k).a := by omega
            have hrf : r = false := by
              cases r with
              | false => rfl
              | true => exact absurd (hr.1 rfl) hbad
            subst hrf
            clear hj hr hbad h1 hp
            generalize g k = z at *
            obtain ⟨za, zb⟩ := z
            dsimp only at *
            go_wp2
            refine wp_region_below (by kernel_rfl) (by kernel_rfl) ?_
            repeat (first
              | go_big_quiet_skip
              | (go_big_quiet_want; go_big_quiet_op; go_big_quiet_on)
              | (refine wpQuiet_step (fun K hK => ?_)
                 go_simp
                 first
                   | (refine hK _ ?_; clear hK K)
                   | (refine ⟨_, fun w' hw' => rfl, hK _ ?_⟩; clear hK K)
                   | (apply Exists.intro
                      refine ⟨fun w' hw' => ?_, hK _ ?_⟩
                      · (obtain ⟨hc', hf'⟩ := bcell hw'
                         first
                           | (go_simp; rfl)
                           | (go_at_call 28; refine (rPlaceMay_any _ _).mono ?_; rintro e w3 ⟨rfl, hw3⟩; subst w3; exact ⟨rfl, hw'⟩))
                      clear hK K)))
            refine wpQuiet_nil ?_
            intro wc hc0
            go_wp2
            go_ret
            exact ⟨rfl, hbel.on hc0⟩
        · have hbad : ¬ (((∀ j, j < n → cuB (g j) = true) ∧ ∀ j, j + 1 < n → cuK (g j) < cuK (g (j + 1))) ∧ n ≤ 32) := fun h => by
            have := h.1.1 k hlt
            simp [cuB, hb2] at this
          have hrf : r = false := by
            cases r with
            | false => rfl
            | true => exact absurd (hr.1 rfl) hbad
          subst hrf
          clear hj hr hbad h1 hp
          generalize g k = z at *
          obtain ⟨za, zb⟩ := z
          dsimp only at *
          go_wp2
          refine wp_region_below (by kernel_rfl) (by kernel_rfl) ?_
          repeat (first
            | go_big_quiet_skip
            | (go_big_quiet_want; go_big_quiet_op; go_big_quiet_on)
            | (refine wpQuiet_step (fun K hK => ?_)
               go_simp
               first
                 | (refine hK _ ?_; clear hK K)
                 | (refine ⟨_, fun w' hw' => rfl, hK _ ?_⟩; clear hK K)
                 | (apply Exists.intro
                    refine ⟨fun w' hw' => ?_, hK _ ?_⟩
                    · (obtain ⟨hc', hf'⟩ := bcell hw'
                       first
                         | (go_simp; rfl)
                         | (go_at_call 28; refine (rPlaceMay_any _ _).mono ?_; rintro e w3 ⟨rfl, hw3⟩; subst w3; exact ⟨rfl, hw'⟩))
                    clear hK K)))
          refine wpQuiet_nil ?_
          intro wc hc0
          go_wp2
          go_ret
          exact ⟨rfl, hbel.on hc0⟩
      · have hbad : ¬ (((∀ j, j < n → cuB (g j) = true) ∧ ∀ j, j + 1 < n → cuK (g j) < cuK (g (j + 1))) ∧ n ≤ 32) := fun h => by
          have := h.1.1 k hlt
          simp [cuB, ha] at this
        have hrf : r = false := by
          cases r with
          | false => rfl
          | true => exact absurd (hr.1 rfl) hbad
        subst hrf
        clear hj hr hbad h1 hp
        generalize g k = z at *
        obtain ⟨za, zb⟩ := z
        dsimp only at *
        go_wp2
        refine wp_region_below (by kernel_rfl) (by kernel_rfl) ?_
        repeat (first
          | go_big_quiet_skip
          | (go_big_quiet_want; go_big_quiet_op; go_big_quiet_on)
          | (refine wpQuiet_step (fun K hK => ?_)
             go_simp
             first
               | (refine hK _ ?_; clear hK K)
               | (refine ⟨_, fun w' hw' => rfl, hK _ ?_⟩; clear hK K)
               | (apply Exists.intro
                  refine ⟨fun w' hw' => ?_, hK _ ?_⟩
                  · (obtain ⟨hc', hf'⟩ := bcell hw'
                     first
                       | (go_simp; rfl)
                       | (go_at_call 28; refine (rPlaceMay_any _ _).mono ?_; rintro e w3 ⟨rfl, hw3⟩; subst w3; exact ⟨rfl, hw'⟩))
                  clear hK K)))
        refine wpQuiet_nil ?_
        intro wc hc0
        go_wp2
        go_ret
        exact ⟨rfl, hbel.on hc0⟩
    · obtain rfl : k = n := by omega
      by_cases hl : k ≤ 32
      · have hrt : r = true := hr.2 ⟨hj, hl⟩
        subst hrt
        have hl1 : (k : Int) ≤ 32 := by omega
        have hl2 : decide ((k : Int) ≤ 32) = true := decide_eq_true hl1
        clear hr hj hp
        go_wp2
        go_ret
        exact ⟨rfl, hbel⟩
      · have hrt : r = false := by
          cases r with
          | false => rfl
          | true => exact absurd (hr.1 rfl).2 hl
        subst hrt
        have hl1 : ¬ (k : Int) ≤ 32 := by omega
        have hl2 : decide ((k : Int) ≤ 32) = false := decide_eq_false hl1
        clear hr hj hp
        go_wp2
        go_ret
        exact ⟨rfl, hbel⟩

theorem rCutsMay_any {lo hi : Nat} {w : World} {v : Value} {cs : List Cu} (hx : RowU lo hi w v cs) (hh : hi ≤ w.heap.size) :
    Calls Try.prog 17 #[v] w fun e w' => e = .returned (.bool (csB cs)) ∧ Below w.heap.size w w' := by
  obtain ⟨p, c, rfl, hn, hp⟩ := hx.cus hh
  refine rCutsMay_core p cs.length c (fun j => cs.getD j ⟨0, 0⟩) w hn (fun h0 => ?_) _ ?_
  · obtain ⟨b, off, e, -, h2, h3⟩ := hp h0
    exact ⟨b, off, e, h2, h3⟩
  · rw [csB_iff, upC_at]
    constructor
    · rintro ⟨h1, h2, h3⟩
      exact ⟨⟨fun j hj => by rw [getD_in _ _ hj]; exact h2 _ (List.getElem_mem hj), h3⟩, h1⟩
    · rintro ⟨⟨h1, h2⟩, h3⟩
      refine ⟨h3, fun x hx => ?_, h2⟩
      obtain ⟨j, hj, rfl⟩ := List.getElem_of_mem hx
      have := h1 j hj
      rwa [getD_in _ _ hj] at this
theorem rCutsMay_is {lo hi : Nat} {w : World} {v : Value} {cs : List Cu} {r : Bool} (hx : RowU lo hi w v cs) (hh : hi ≤ w.heap.size) (hr : csB cs = r) :
    Calls Try.prog 17 #[v] w fun e w' => e = .returned (.bool r) ∧ Below w.heap.size w w' := hr ▸ rCutsMay_any hx hh

end Go.Proofs.Ytnbnnbcjlfdlpaa
