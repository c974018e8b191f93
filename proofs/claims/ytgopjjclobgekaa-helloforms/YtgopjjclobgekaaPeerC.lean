
/-
  Contracts of package peers' Heard and Age, at every list of peers: what they return, in new memory, and that no old memory has turned.
-/
import Derived.Test.YtgopjjclobgekaaPeerB
namespace Go.Proofs.Ytgopjjclobgekaa
open Go.ChangeShapes Go.WideShapes Go.ChangeAt Go.RowKit

theorem apart_none (v : Value) : Apart (.slice none 0 0) v := fun k h => by cases h
/-- Two rows of a call's own, in two blocks. -/
theorem two_rows {w : World} {base n k : Nat} {o l : Value} {xs : List Pe} {ys : List Int} (ho : w.ownsRow base 42 2 o n (xs.flatMap PeV)) (hl : w.ownsRow base 3 1 l k (ys.map (Value.int .i64))) (hap : Apart o l) (hb : base ≤ w.heap.size) :
    ∃ lo1 hi1 lo2 hi2, RowP lo1 hi1 w o xs ∧ RowI lo2 hi2 w l ys ∧ (hi1 ≤ lo2 ∨ hi2 ≤ lo1) ∧ base ≤ lo1 ∧ hi1 ≤ w.heap.size ∧ base ≤ lo2 ∧ hi2 ≤ w.heap.size := by
  have h1 := ho
  have h2 := hl
  obtain ⟨el, ec⟩ := ho
  obtain ⟨fl, fc⟩ := hl
  have hn : n = xs.length := by
    rw [flat_len PeV_len] at el
    omega
  have hk : k = ys.length := by simpa using fl.symm
  subst hn hk
  rcases ec with ⟨rfl, e1⟩ | ⟨g, cap, cur, rfl, hg, hh, hle, hcap, hsz, htk⟩
  · obtain rfl : xs = [] := List.length_eq_zero_iff.1 e1
    exact ⟨base, base, base, w.heap.size, RowC.nil0, RowI.of_owns h2, .inl (Nat.le_refl _), Nat.le_refl _, hb, Nat.le_refl _, Nat.le_refl _⟩
  · have hgw : g < w.heap.size := (Array.getElem?_eq_some_iff.1 hh).1
    have R1 : RowP g (g + 1) w (.slice (some ⟨g, 0, none⟩) xs.length cap) xs := by
      refine ⟨_, cap, rfl, ⟨hle, fun h => by cases h⟩, hcap, fun _ => ⟨g, 0, rfl, Nat.le_refl _, Nat.lt_succ_self _, fun j hj => ⟨?_, ?_⟩⟩⟩
      · rw [Nat.zero_add, h1.cellAt j hj]
      · rw [Nat.zero_add]
        exact h1.frozenAt j
    rcases fc with ⟨rfl, e1⟩ | ⟨g', cap', cur', rfl, hg', hh', hle', hcap', hsz', htk'⟩
    · obtain rfl : ys = [] := List.length_eq_zero_iff.1 e1
      exact ⟨g, g + 1, base, base, R1, RowI.nil0, .inr hg, hg, hgw, Nat.le_refl _, hb⟩
    · have hgw' : g' < w.heap.size := (Array.getElem?_eq_some_iff.1 hh').1
      have hne : g ≠ g' := fun e => hap g rfl (by rw [e]; rfl)
      have R2 : RowI g' (g' + 1) w (.slice (some ⟨g', 0, none⟩) ys.length cap') ys := by
        obtain ⟨p, c, e, a1, a2, a3⟩ := RowI.of_owns h2
        cases e
        refine ⟨_, _, rfl, a1, a2, fun hne => ?_⟩
        obtain ⟨b, off, e, _, _, a4⟩ := a3 hne
        cases e
        exact ⟨g', 0, rfl, Nat.le_refl _, Nat.lt_succ_self _, a4⟩
      exact ⟨g, g + 1, g', g' + 1, R1, R2, by omega, hg, hgw, hg', hgw'⟩

set_option maxHeartbeats 1000000 in
theorem pHeard_any {lo hi : Nat} {w : World} {v : Value} {xs : List Pe} (hx : RowP lo hi w v xs) (hh : hi ≤ w.heap.size) (b d : Int) :
    Calls Try.prog 50 #[.int .i64 b, v, .int .i64 d] w fun e w' => ∃ o, e = .returned (.tuple #[o, .int .i64 (hdE b xs d)]) ∧ RowP w.heap.size w'.heap.size w' o (hdL b xs d) ∧ Below w.heap.size w w' := by
  rcases Bool.eq_false_or_eq_true (psB b xs) with hs | hs
  · obtain ⟨h0, hv, hr, hl⟩ := psB_iff.1 hs
    have hpl : ∀ p ∈ xs, plB p.n = true := fun p hp => (peB_iff.1 (hv p hp)).1
    have HM := pMay_is hx hh hs
    rcases Bool.eq_false_or_eq_true (plB d) with hd | hd
    · by_cases hdb : d = b
      · obtain ⟨e1, e2⟩ := hd_form (b := b) (xs := xs) (d := d) (.inr (.inr hdb))
        rw [e1, e2]
        obtain ⟨p, cc, rfl, hn, -⟩ := hx.pes hh
        clear hpl hv hr hs hx e1 e2
        subst hdb
        go_enter Try.func50, Try.ntmps50
        go_wp2_with (first
          | (go_at_call 41; refine HM.mono ?_; rintro e w1 ⟨rfl, h1⟩)
          | (go_at_call 56; refine (pPlace_any _ _).mono ?_; rintro e w' ⟨rfl, hw'⟩; subst w'))
        go_ret2
        exact ⟨_, rfl, RowC.nil0, h1⟩
      · have hdb2 : (d == b) = false := by simpa using hdb
        have HF : Hid (∀ w', Below w.heap.size w w' → _) := fun w' hb => pFind_any (hx.below hb hh) (Nat.le_trans hh hb.size) hs d hd
        rcases Bool.eq_false_or_eq_true (thereB xs d) with ht | ht
        · have HW : Hid (∀ w', Below w.heap.size w w' → PosP b xs d (posP b xs d) → Calls Try.prog 68 #[v, .int .i64 (posP b xs d)] w' fun e w'' => ∃ o, e = .returned o ∧ RowP w'.heap.size w''.heap.size w'' o (hdL b xs d) ∧ Below w'.heap.size w' w'') := toHid fun w' hb hP => by
            obtain ⟨hm, hn, hI⟩ := hP.set hr hpl hd ht
            have := pHeardOf_any (hx.below hb hh) (Nat.le_trans hh hb.size) hl (posP b xs d) hm
            rw [hn, ← hI, ← (hd_ok hs hd hdb (by rw [hI, List.length_set]; exact hl)).1] at this
            exact this
          have hE : hdE b xs d = 0 ∨ ¬ PosP b xs d (posP b xs d) := by
            by_cases hP : PosP b xs d (posP b xs d)
            · obtain ⟨hm, hn, hI⟩ := hP.set hr hpl hd ht
              exact .inl (hd_ok hs hd hdb (by rw [hI, List.length_set]; exact hl)).2
            · exact .inr hP
          replace hE := toHid hE
          rw [ht] at HF
          obtain ⟨p, cc, rfl, hn, -⟩ := hx.pes hh
          clear hpl hv hr hs hx ht
          generalize hys : hdL b xs d = ys at *
          generalize hee : hdE b xs d = ee at *
          generalize posP b xs d = m at *
          clear hys hee
          go_enter Try.func50, Try.ntmps50
          go_wp2_with (first
            | (go_at_call 41; refine HM.mono ?_; rintro e w1 ⟨rfl, h1⟩)
            | (go_at_call 56; refine (pPlace_any _ _).mono ?_; rintro e w' ⟨rfl, hw'⟩; subst w')
            | (go_at_call 67; refine (HF.out _ h1).mono ?_; rintro e w2 ⟨rfl, hP, h2⟩)
            | (go_at_call 68; refine (HW.out _ (h1.on h2) hP).mono ?_; rintro e w3 ⟨o, rfl, hR, h3⟩))
          obtain rfl : ee = 0 := by
            rcases hE.out with h | h
            · exact h
            · exact absurd hP h
          go_ret2
          exact ⟨_, rfl, hR.wide (h1.on h2).size (Nat.le_refl _), (h1.on h2).on h3⟩
        · rw [ht] at HF
          by_cases hfull : xs.length = 16
          · have hE : ¬ PosP b xs d (posP b xs d) ∨ (hdL b xs d = [] ∧ hdE b xs d = 701) := by
              by_cases hP : PosP b xs d (posP b xs d)
              · refine .inr (hd_full hs hd hdb ?_)
                rw [hP.new hpl hd ht, List.length_append, List.length_cons, List.length_take, List.length_drop]
                have := hP.le
                omega
              · exact .inl hP
            replace hE := toHid hE
            have hf1 : (xs.length : Int) = 16 := by omega
            obtain ⟨p, cc, rfl, hn, -⟩ := hx.pes hh
            clear hpl hv hr hs hx ht
            generalize hys : hdL b xs d = ys at *
            generalize hee : hdE b xs d = ee at *
            generalize hpp : PosP b xs d (posP b xs d) = PP at *
            generalize posP b xs d = m at *
            clear hys hee hpp
            generalize xs.length = n at *
            subst hfull
            go_enter Try.func50, Try.ntmps50
            go_wp2_with (first
              | (go_at_call 41; refine HM.mono ?_; rintro e w1 ⟨rfl, h1⟩)
              | (go_at_call 56; refine (pPlace_any _ _).mono ?_; rintro e w' ⟨rfl, hw'⟩; subst w')
              | (go_at_call 67; refine (HF.out _ h1).mono ?_; rintro e w2 ⟨rfl, hP, h2⟩))
            obtain ⟨rfl, rfl⟩ : ys = [] ∧ ee = 701 := by
              rcases hE.out with h | h
              · exact absurd hP h
              · exact h
            go_ret2
            exact ⟨_, rfl, RowC.nil0, h1.on h2⟩
          · have HW : Hid (∀ w', Below w.heap.size w w' → PosP b xs d (posP b xs d) → Calls Try.prog 69 #[v, .int .i64 (posP b xs d), .int .i64 d] w' fun e w'' => ∃ o, e = .returned o ∧ RowP w'.heap.size w''.heap.size w'' o (hdL b xs d) ∧ Below w'.heap.size w' w'') := toHid fun w' hb hP => by
              have hI := hP.new hpl hd ht
              have := pNew_any (hx.below hb hh) (Nat.le_trans hh hb.size) hl (posP b xs d) hP.le d
              rw [← hI, ← (hd_ok hs hd hdb (by rw [hI, List.length_append, List.length_cons, List.length_take, List.length_drop]; have := hP.le; omega)).1] at this
              exact this
            have hE : hdE b xs d = 0 ∨ ¬ PosP b xs d (posP b xs d) := by
              by_cases hP : PosP b xs d (posP b xs d)
              · have hI := hP.new hpl hd ht
                exact .inl (hd_ok hs hd hdb (by rw [hI, List.length_append, List.length_cons, List.length_take, List.length_drop]; have := hP.le; omega)).2
              · exact .inr hP
            replace hE := toHid hE
            have hf1 : ¬ (xs.length : Int) = 16 := by omega
            have hf2 : ((xs.length : Int) == 16) = false := by simpa using hf1
            obtain ⟨p, cc, rfl, hn, -⟩ := hx.pes hh
            clear hpl hv hr hs hx ht
            generalize hys : hdL b xs d = ys at *
            generalize hee : hdE b xs d = ee at *
            generalize hpp : PosP b xs d (posP b xs d) = PP at *
            generalize posP b xs d = m at *
            clear hys hee hpp
            generalize xs.length = n at *
            go_enter Try.func50, Try.ntmps50
            go_wp2_with (first
              | (go_at_call 41; refine HM.mono ?_; rintro e w1 ⟨rfl, h1⟩)
              | (go_at_call 56; refine (pPlace_any _ _).mono ?_; rintro e w' ⟨rfl, hw'⟩; subst w')
              | (go_at_call 67; refine (HF.out _ h1).mono ?_; rintro e w2 ⟨rfl, hP, h2⟩)
              | (go_at_call 69; refine (HW.out _ (h1.on h2) hP).mono ?_; rintro e w3 ⟨o, rfl, hR, h3⟩))
            obtain rfl : ee = 0 := by
              rcases hE.out with h | h
              · exact h
              · exact absurd hP h
            go_ret2
            exact ⟨_, rfl, hR.wide (h1.on h2).size (Nat.le_refl _), (h1.on h2).on h3⟩
    · obtain ⟨e1, e2⟩ := hd_form (b := b) (xs := xs) (d := d) (.inr (.inl hd))
      rw [e1, e2]
      obtain ⟨p, cc, rfl, hn, -⟩ := hx.pes hh
      clear hpl hv hr hs hx e1 e2
      go_enter Try.func50, Try.ntmps50
      go_wp2_with (first
        | (go_at_call 41; refine HM.mono ?_; rintro e w1 ⟨rfl, h1⟩)
        | (go_at_call 56; refine (pPlace_any _ _).mono ?_; rintro e w' ⟨rfl, hw'⟩; subst w'))
      go_ret2
      exact ⟨_, rfl, RowC.nil0, h1⟩
  · have HM := pMay_is hx hh hs
    obtain ⟨e1, e2⟩ := hd_form (b := b) (xs := xs) (d := d) (.inl hs)
    rw [e1, e2]
    obtain ⟨p, cc, rfl, hn, -⟩ := hx.pes hh
    clear hs hx e1 e2
    go_enter Try.func50, Try.ntmps50
    go_wp2_with (first
      | (go_at_call 41; refine HM.mono ?_; rintro e w1 ⟨rfl, h1⟩))
    go_ret2
    exact ⟨_, rfl, RowC.nil0, h1⟩

theorem pHeard_at {lo hi : Nat} {w : World} {v : Value} {xs : List Pe} (hx : RowP lo hi w v xs) (hh : hi ≤ w.heap.size) (b d : Int) {ys : List Pe} {err : Int} (hL : hdL b xs d = ys) (hE : hdE b xs d = err) :
    Calls Try.prog 50 #[.int .i64 b, v, .int .i64 d] w fun e w' => ∃ o, e = .returned (.tuple #[o, .int .i64 err]) ∧ RowP w.heap.size w'.heap.size w' o ys ∧ Below w.heap.size w w' := by
  subst hL hE
  exact pHeard_any hx hh b d
end Go.Proofs.Ytgopjjclobgekaa
