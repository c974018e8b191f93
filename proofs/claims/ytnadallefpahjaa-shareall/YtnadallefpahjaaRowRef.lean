
/-
  Contracts of the document's own answers for layer 2 (places by distance, the owner): what they return, and that nothing that was there is turned.
-/
import Derived.Test.YtnadallefpahjaaRingRef
import Derived.Test.YtnadallefpahjaaLaw0
import Derived.Test.YtnadallefpahjaaPassRef
import Derived.Test.YtnadallefpahjaaRowMath
namespace Go.Proofs.Ytnadallefpahjaa
open Go.ChangeShapes Go.WideShapes Go.ChangeAt Go.RowKit

theorem rOwner_no {lo hi : Nat} {w : World} {v : Value} {xs : List Int} (hv : RowI lo hi w v xs) (b : Int) (h : plB b = false ∨ plsB xs = false ∨ xs.length = 0 ∨ 64 < xs.length) :
    Calls Try.prog 40 #[v, .int .i64 b] w fun e w' => e = .returned (.tuple #[.int .i64 0, .int .i64 200]) ∧ w' = w := by
  have hm := placesMay_any hv
  by_cases hb : plB b = true
  · by_cases hx : plsB xs = true
    · obtain ⟨p, c, rfl, _, hc, _⟩ := hv
      have h : xs.length = 0 ∨ 64 < xs.length := by
        rcases h with h | h | h
        · rw [hb] at h; cases h
        · rw [hx] at h; cases h
        · exact h
      rw [hx] at hm
      clear hx
      generalize xs.length = n at *
      rcases h with rfl | h
      · clear hc
        go_enter Try.func40, Try.ntmps40
        go_wp2_with (first | (go_at_call 33; refine (rPlaceMay_any _ _).mono ?_; rintro e w' ⟨rfl, rfl⟩) | (go_at_call 34; refine hm.mono ?_; rintro e w' ⟨rfl, rfl⟩))
        go_ret2
        exact ⟨rfl, rfl⟩
      · have h0' : ¬ (n : Int) = 0 := by omega
        have hl' : (64 : Int) < (n : Int) := by omega
        clear h
        go_enter Try.func40, Try.ntmps40
        go_wp2_with (first | (go_at_call 33; refine (rPlaceMay_any _ _).mono ?_; rintro e w' ⟨rfl, rfl⟩) | (go_at_call 34; refine hm.mono ?_; rintro e w' ⟨rfl, rfl⟩))
        go_ret2
        exact ⟨rfl, rfl⟩
    · have hx : plsB xs = false := by simpa using hx
      clear h
      go_enter Try.func40, Try.ntmps40
      go_wp2_with (first | (go_at_call 33; refine (rPlaceMay_any _ _).mono ?_; rintro e w' ⟨rfl, rfl⟩) | (go_at_call 34; refine hm.mono ?_; rintro e w' ⟨rfl, rfl⟩))
      go_ret2
      exact ⟨rfl, rfl⟩
  · have hb : plB b = false := by simpa using hb
    clear h
    go_enter Try.func40, Try.ntmps40
    go_wp2_with (first | (go_at_call 33; refine (rPlaceMay_any _ _).mono ?_; rintro e w' ⟨rfl, rfl⟩) | (go_at_call 34; refine hm.mono ?_; rintro e w' ⟨rfl, rfl⟩))
    go_ret2
    exact ⟨rfl, rfl⟩

set_option maxHeartbeats 1000000 in
theorem rOwner_yes {lo hi : Nat} {w : World} {v : Value} {xs : List Int} (hv : RowI lo hi w v xs) (b : Int) (hb : plB b = true) (hx : plsB xs = true) (h0 : xs ≠ []) (hl : xs.length ≤ 64) :
    Calls Try.prog 40 #[v, .int .i64 b] w fun e w' => e = .returned (.tuple #[.int .i64 (ownerOf xs b), .int .i64 0]) ∧ w' = w := by
  have hm := placesMay_any hv
  obtain ⟨p, c, rfl, _, hc, hpx⟩ := hv
  obtain ⟨bl, off, rfl, _, _, h3⟩ := hpx h0
  have hpl0 : ∀ j, j < xs.length → plB (xs.getD j 0) = true := fun j hj => by
    have := plsB_mem hx xs[j] (List.getElem_mem hj)
    simpa [List.getD, List.getElem?_eq_getElem hj] using this
  have hn1 : 1 ≤ xs.length := List.length_pos_iff.2 h0
  have ho : ownerOf xs b = nearAt b (fun j => xs.getD j 0) (xs.length - 1) := rfl
  rw [ho]
  have hcell0 : ∀ j, j < xs.length → w.cell? ⟨bl, off + j, none⟩ = some (.int .i64 (xs.getD j 0)) := fun j hj => (h3 j hj).1
  rw [hx] at hm
  clear hpx h3 h0 ho hx
  obtain ⟨g, hg⟩ : ∃ g : Nat → Int, g = fun j => xs.getD j 0 := ⟨_, rfl⟩
  rw [← hg]
  have hpl : ∀ j, j < xs.length → plB (g j) = true := by rw [hg]; exact hpl0
  have hcell : ∀ j, j < xs.length → w.cell? ⟨bl, off + j, none⟩ = some (.int .i64 (g j)) := by rw [hg]; exact hcell0
  clear hg hpl0 hcell0
  generalize xs.length = n at *
  have e0 : w.cell? ⟨bl, off, none⟩ = some (.int .i64 (g 0)) := hcell 0 (by omega)
  have hn1' : (0 : Int) < (n : Int) := by omega
  have hn0 : ¬ (n : Int) = 0 := by omega
  have hl' : (n : Int) ≤ 64 := by omega
  have hb0 : ((n : Int) == 0) = false := by simp; omega
  have hb1 : decide ((64 : Int) < (n : Int)) = false := by simp; omega
  go_enter Try.func40, Try.ntmps40
  go_wp2_with (first | (go_at_call 33; refine (rPlaceMay_any _ _).mono ?_; rintro e w' ⟨rfl, hw'⟩; subst w') | (go_at_call 34; refine hm.mono ?_; rintro e w' ⟨rfl, hw'⟩; subst w'))
  go_loop [6, 7] (fun m i => ∃ k : Nat, k + 1 ≤ n ∧ i = .int .i64 ((k : Int) + 1) ∧ m = .int .i64 (nearAt b g k)) (fun _ i => n - (intOf i).toNat)
  case atStart => exact ⟨0, by omega, rfl, rfl⟩
  case round =>
    obtain ⟨k, hk, rfl, rfl⟩ := hrel
    have hsu : nearAt b g (k + 1) = if far b (g (k + 1)) < far b (nearAt b g k) then g (k + 1) else nearAt b g k := rfl
    by_cases hlt : k + 1 < n
    · have hlt' : (k : Int) + 1 < (n : Int) := by omega
      have c1 : w.cell? ⟨bl, off + (k + 1), none⟩ = some (.int .i64 (g (k + 1))) := hcell (k + 1) hlt
      have p1 : plB (g (k + 1)) = true := hpl _ hlt
      have p2 : plB (nearAt b g k) = true := by
        obtain ⟨j, hj, e⟩ := nearAt_mem b g k
        rw [e]; exact hpl _ (by omega)
      clear hcell hpl hm e0
      by_cases hf : far b (g (k + 1)) < far b (nearAt b g k)
      · rw [if_pos hf] at hsu
        have HS : Hid (nearAt b g (k + 1) = g (k + 1)) := hsu
        clear hsu
        go_wp2_with (go_at_call 56; refine (rfar_any _ _ _ (by assumption) (by assumption)).mono ?_; rintro e w' ⟨rfl, hw'⟩; subst w')
        go_round
        case rel => exact ⟨k + 1, by omega, by go_num, by rw [HS.out]⟩
        case measure => simp [intOf]; omega
      · rw [if_neg hf] at hsu
        have HS : Hid (nearAt b g (k + 1) = nearAt b g k) := hsu
        clear hsu
        go_wp2_with (go_at_call 56; refine (rfar_any _ _ _ (by assumption) (by assumption)).mono ?_; rintro e w' ⟨rfl, hw'⟩; subst w')
        go_round
        case rel => exact ⟨k + 1, by omega, by go_num, by rw [HS.out]⟩
        case measure => simp [intOf]; omega
    · obtain rfl : k = n - 1 := by omega
      clear hsu
      go_wp2
      go_ret2
      exact ⟨rfl, rfl⟩

theorem rOwner_any {lo hi : Nat} {w : World} {v : Value} {xs : List Int} (hv : RowI lo hi w v xs) (b : Int) :
    Calls Try.prog 40 #[v, .int .i64 b] w fun e w' => e = .returned (.tuple #[.int .i64 (ownV xs b), .int .i64 (ownE xs b)]) ∧ w' = w := by
  by_cases h : rowB b xs = true ∧ xs ≠ []
  · unfold ownV ownE
    rw [if_pos h, if_pos h]
    obtain ⟨hl, hb, hx⟩ := rowB_yes h.1
    exact rOwner_yes hv b hb hx h.2 hl
  · unfold ownV ownE
    rw [if_neg h, if_neg h]
    refine rOwner_no hv b ?_
    by_cases e : xs = []
    · right; right; left; rw [e]; rfl
    · have hr : rowB b xs = false := by
        cases hr : rowB b xs with
        | false => rfl
        | true => exact absurd ⟨hr, e⟩ h
      rcases rowB_no hr with h | h | h
      · exact .inl h
      · exact .inr (.inl h)
      · exact .inr (.inr (.inr h))

end Go.Proofs.Ytnadallefpahjaa
