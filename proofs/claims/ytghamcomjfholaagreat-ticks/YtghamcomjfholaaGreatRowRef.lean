
/-
  Views as plain lists: which may be; who is next, who was before, who owns a key; and what is so of them.
-/
import Derived.Test.YtghamcomjfholaaGreatPeerMath
import Derived.Test.YtghamcomjfholaaGreatPassMath
import Derived.Test.YtghamcomjfholaaGreatRowMath
import Derived.Test.YtghamcomjfholaaGreatRingRef
import Derived.Test.YtghamcomjfholaaGreatIntRow
import Derived.Test.YtghamcomjfholaaGreatPassRef
namespace Go.Proofs.YtghamcomjfholaaGreat

def nmL (ps : List Pe) : List Int := ps.map Pe.n
/-- The node itself, then its peers. -/
def idL (i : Int) (ps : List Pe) : List Int := i :: nmL ps
def vwB (i : Int) (ps : List Pe) (is : List Int) : Bool := decide (psB i ps = true ∧ paB is = true ∧ ps.length + is.length ≤ 16 ∧ ∀ y ∈ is, ¬ y ∈ idL i ps)
theorem vwB_iff {i : Int} {ps : List Pe} {is : List Int} : vwB i ps is = true ↔ psB i ps = true ∧ paB is = true ∧ ps.length + is.length ≤ 16 ∧ ∀ y ∈ is, ¬ y ∈ idL i ps := by simp [vwB]
def sucV (i : Int) (ps : List Pe) (is : List Int) : Int := if vwB i ps is = true then (idL i ps).getD (min 1 ps.length) 0 else 0
def vwE (i : Int) (ps : List Pe) (is : List Int) : Int := if vwB i ps is = true then 0 else 900
def owV (i : Int) (ps : List Pe) (is : List Int) (k : Int) : Int := if vwB i ps is = true ∧ plB k = true then ownerOf (idL i ps) k else 0
def owE (i : Int) (ps : List Pe) (is : List Int) (k : Int) : Int := if vwB i ps is = true ∧ plB k = true then 0 else 900

theorem nmL_len (ps : List Pe) : (nmL ps).length = ps.length := List.length_map _
theorem idL_len (i : Int) (ps : List Pe) : (idL i ps).length = ps.length + 1 := by simp [idL, nmL]
theorem idL_ne (i : Int) (ps : List Pe) : idL i ps ≠ [] := by simp [idL]
theorem idL_mem {i x : Int} {ps : List Pe} : x ∈ idL i ps ↔ x = i ∨ ∃ p ∈ ps, p.n = x := by simp [idL, nmL]
theorem nmL_take (ps : List Pe) (k : Nat) (h : k < ps.length) : nmL (ps.take (k + 1)) = nmL (ps.take k) ++ [(ps.getD k ⟨0, 0⟩).n] := by
  rw [take_step h, getD_in _ _ h, nmL, List.map_append]
  rfl
theorem idL_take (i : Int) (ps : List Pe) (k : Nat) (h : k < ps.length) : idL i (ps.take (k + 1)) = idL i (ps.take k) ++ [(ps.getD k ⟨0, 0⟩).n] := by
  rw [idL, nmL_take ps k h]
  rfl

section may
variable {i : Int} {ps : List Pe} {is : List Int} (h : vwB i ps is = true)
include h
theorem vw_base : plB i = true := (psB_iff.1 (vwB_iff.1 h).1).1
theorem vw_pe (p : Pe) (hp : p ∈ ps) : plB p.n = true ∧ ¬ p.n = i :=
  have := peB_iff.1 ((psB_iff.1 (vwB_iff.1 h).1).2.1 p hp)
  ⟨this.1, this.2.1⟩
theorem vw_pls : plsB (idL i ps) = true := plsB_mk fun x hx => by
  rcases idL_mem.1 hx with rfl | ⟨p, hp, rfl⟩
  · exact vw_base h
  · exact (vw_pe h p hp).1
theorem vw_len : ps.length ≤ 16 := (psB_iff.1 (vwB_iff.1 h).1).2.2.2
theorem vw_rise : Rise i ps := (psB_iff.1 (vwB_iff.1 h).1).2.2.1
theorem vw_row {k : Int} (hk : plB k = true) : rowB k (idL i ps) = true := rowB_mk (by have := vw_len h; rw [idL_len]; omega) hk (vw_pls h)
theorem vw_own (k : Int) : ownV (idL i ps) k = owV i ps is k ∧ ownE (idL i ps) k = (if plB k = true then 0 else 200) := by
  rcases Bool.eq_false_or_eq_true (plB k) with hk | hk
  · obtain ⟨h1, h2⟩ := ownV_yes (vw_row h hk) (idL_ne i ps)
    rw [h1, h2]
    simp [owV, h, hk]
  · have : ¬ (rowB k (idL i ps) = true ∧ idL i ps ≠ []) := fun e => by have := (rowB_yes e.1).2.1; rw [hk] at this; cases this
    simp [ownV, ownE, this, owV, hk]

end may

end Go.Proofs.YtghamcomjfholaaGreat

namespace Go.Proofs.YtghamcomjfholaaGreat
open Go.ChangeShapes Go.WideShapes Go.ChangeAt Go.RowKit

theorem rOwner_no {lo hi : Nat} {w : World} {v : Value} {xs : List Int} (hv : RowI lo hi w v xs) (b : Int) (h : plB b = false ∨ plsB xs = false ∨ xs.length = 0 ∨ 64 < xs.length) :
    Calls Tryz.prog 78 #[v, .int .i64 b] w fun e w' => e = .returned (.tuple #[.int .i64 0, .int .i64 200]) ∧ w' = w := by
  have hm := placesMay_any hv
  by_cases hb : plB b = true
  · by_cases hx : plsB xs = true
    · obtain ⟨p, c, rfl, _, hc, _⟩ := hv
      have h : xs.length = 0 ∨ 64 < xs.length := by
        rcases h with h | h | h
        · rw [hb] at h; cases h
        · rw [hx] at h; cases h
        · exact h
      rw [hx] at hm
      clear hx
      generalize xs.length = n at *
      rcases h with rfl | h
      · clear hc
        go_enter Tryz.func78, Tryz.ntmps78
        go_wp2_with (first | (go_at_call 72; refine (rPlaceMay_any _ _).mono ?_; rintro e w' ⟨rfl, rfl⟩) | (go_at_call 94; refine hm.mono ?_; rintro e w' ⟨rfl, rfl⟩))
        go_ret2
        exact ⟨rfl, rfl⟩
      · have h0' : ¬ (n : Int) = 0 := by omega
        have hl' : (64 : Int) < (n : Int) := by omega
        clear h
        go_enter Tryz.func78, Tryz.ntmps78
        go_wp2_with (first | (go_at_call 72; refine (rPlaceMay_any _ _).mono ?_; rintro e w' ⟨rfl, rfl⟩) | (go_at_call 94; refine hm.mono ?_; rintro e w' ⟨rfl, rfl⟩))
        go_ret2
        exact ⟨rfl, rfl⟩
    · have hx : plsB xs = false := by simpa using hx
      clear h
      go_enter Tryz.func78, Tryz.ntmps78
      go_wp2_with (first | (go_at_call 72; refine (rPlaceMay_any _ _).mono ?_; rintro e w' ⟨rfl, rfl⟩) | (go_at_call 94; refine hm.mono ?_; rintro e w' ⟨rfl, rfl⟩))
      go_ret2
      exact ⟨rfl, rfl⟩
  · have hb : plB b = false := by simpa using hb
    clear h
    go_enter Tryz.func78, Tryz.ntmps78
    go_wp2_with (first | (go_at_call 72; refine (rPlaceMay_any _ _).mono ?_; rintro e w' ⟨rfl, rfl⟩) | (go_at_call 94; refine hm.mono ?_; rintro e w' ⟨rfl, rfl⟩))
    go_ret2
    exact ⟨rfl, rfl⟩

set_option maxHeartbeats 1000000 in
theorem rOwner_yes {lo hi : Nat} {w : World} {v : Value} {xs : List Int} (hv : RowI lo hi w v xs) (b : Int) (hb : plB b = true) (hx : plsB xs = true) (h0 : xs ≠ []) (hl : xs.length ≤ 64) :
    Calls Tryz.prog 78 #[v, .int .i64 b] w fun e w' => e = .returned (.tuple #[.int .i64 (ownerOf xs b), .int .i64 0]) ∧ w' = w := by
  have hm := placesMay_any hv
  obtain ⟨p, c, rfl, _, hc, hpx⟩ := hv
  obtain ⟨bl, off, rfl, _, _, h3⟩ := hpx h0
  have hpl0 : ∀ j, j < xs.length → plB (xs.getD j 0) = true := fun j hj => by
    have := plsB_mem hx xs[j] (List.getElem_mem hj)
    simpa [List.getD, List.getElem?_eq_getElem hj] using this
  have hn1 : 1 ≤ xs.length := List.length_pos_iff.2 h0
  have ho : ownerOf xs b = nearAt b (fun j => xs.getD j 0) (xs.length - 1) := rfl
  rw [ho]
  have hcell0 : ∀ j, j < xs.length → w.cell? ⟨bl, off + j, none⟩ = some (.int .i64 (xs.getD j 0)) := fun j hj => (h3 j hj).1
  rw [hx] at hm
  clear hpx h3 h0 ho hx
  obtain ⟨g, hg⟩ : ∃ g : Nat → Int, g = fun j => xs.getD j 0 := ⟨_, rfl⟩
  rw [← hg]
  have hpl : ∀ j, j < xs.length → plB (g j) = true := by rw [hg]; exact hpl0
  have hcell : ∀ j, j < xs.length → w.cell? ⟨bl, off + j, none⟩ = some (.int .i64 (g j)) := by rw [hg]; exact hcell0
  clear hg hpl0 hcell0
  generalize xs.length = n at *
  have e0 : w.cell? ⟨bl, off, none⟩ = some (.int .i64 (g 0)) := hcell 0 (by omega)
  have hn1' : (0 : Int) < (n : Int) := by omega
  have hn0 : ¬ (n : Int) = 0 := by omega
  have hl' : (n : Int) ≤ 64 := by omega
  have hb0 : ((n : Int) == 0) = false := by simp; omega
  have hb1 : decide ((64 : Int) < (n : Int)) = false := by simp; omega
  go_enter Tryz.func78, Tryz.ntmps78
  go_wp2_with (first | (go_at_call 72; refine (rPlaceMay_any _ _).mono ?_; rintro e w' ⟨rfl, hw'⟩; subst w') | (go_at_call 94; refine hm.mono ?_; rintro e w' ⟨rfl, hw'⟩; subst w'))
  go_loop [6, 7] (fun m i => ∃ k : Nat, k + 1 ≤ n ∧ i = .int .i64 ((k : Int) + 1) ∧ m = .int .i64 (nearAt b g k)) (fun _ i => n - (intOf i).toNat)
  case atStart => exact ⟨0, by omega, rfl, rfl⟩
  case round =>
    obtain ⟨k, hk, rfl, rfl⟩ := hrel
    have hsu : nearAt b g (k + 1) = if far b (g (k + 1)) < far b (nearAt b g k) then g (k + 1) else nearAt b g k := rfl
    by_cases hlt : k + 1 < n
    · have hlt' : (k : Int) + 1 < (n : Int) := by omega
      have c1 : w.cell? ⟨bl, off + (k + 1), none⟩ = some (.int .i64 (g (k + 1))) := hcell (k + 1) hlt
      have p1 : plB (g (k + 1)) = true := hpl _ hlt
      have p2 : plB (nearAt b g k) = true := by
        obtain ⟨j, hj, e⟩ := nearAt_mem b g k
        rw [e]; exact hpl _ (by omega)
      clear hcell hpl hm e0
      by_cases hf : far b (g (k + 1)) < far b (nearAt b g k)
      · rw [if_pos hf] at hsu
        have HS : Hid (nearAt b g (k + 1) = g (k + 1)) := hsu
        clear hsu
        go_wp2_with (go_at_call 93; refine (rfar_any _ _ _ (by assumption) (by assumption)).mono ?_; rintro e w' ⟨rfl, hw'⟩; subst w')
        go_round
        case rel => exact ⟨k + 1, by omega, by go_num, by rw [HS.out]⟩
        case measure => simp [intOf]; omega
      · rw [if_neg hf] at hsu
        have HS : Hid (nearAt b g (k + 1) = nearAt b g k) := hsu
        clear hsu
        go_wp2_with (go_at_call 93; refine (rfar_any _ _ _ (by assumption) (by assumption)).mono ?_; rintro e w' ⟨rfl, hw'⟩; subst w')
        go_round
        case rel => exact ⟨k + 1, by omega, by go_num, by rw [HS.out]⟩
        case measure => simp [intOf]; omega
    · obtain rfl : k = n - 1 := by omega
      clear hsu
      go_wp2
      go_ret2
      exact ⟨rfl, rfl⟩

theorem rOwner_any {lo hi : Nat} {w : World} {v : Value} {xs : List Int} (hv : RowI lo hi w v xs) (b : Int) :
    Calls Tryz.prog 78 #[v, .int .i64 b] w fun e w' => e = .returned (.tuple #[.int .i64 (ownV xs b), .int .i64 (ownE xs b)]) ∧ w' = w := by
  by_cases h : rowB b xs = true ∧ xs ≠ []
  · unfold ownV ownE
    rw [if_pos h, if_pos h]
    obtain ⟨hl, hb, hx⟩ := rowB_yes h.1
    exact rOwner_yes hv b hb hx h.2 hl
  · unfold ownV ownE
    rw [if_neg h, if_neg h]
    refine rOwner_no hv b ?_
    by_cases e : xs = []
    · right; right; left; rw [e]; rfl
    · have hr : rowB b xs = false := by
        cases hr : rowB b xs with
        | false => rfl
        | true => exact absurd ⟨hr, e⟩ h
      rcases rowB_no hr with h | h | h
      · exact .inl h
      · exact .inr (.inl h)
      · exact .inr (.inr (.inr h))

end Go.Proofs.YtghamcomjfholaaGreat
