
/-
  Contracts of package peers' Heard and Age, at every list of peers: what they return, in new memory, and that no old memory has turned.
-/
import Derived.Test.YtghamcomjfholaaPeerA
import Derived.Test.YtghamcomjfholaaOld
import Derived.Test.YtghamcomjfholaaIntRow
import Derived.WalkSpells
import Derived.OneCell
namespace Go.Proofs.Ytghamcomjfholaa
open Go.ChangeShapes Go.WideShapes Go.ChangeAt Go.RowKit

theorem apart_none (v : Value) : Apart (.slice none 0 0) v := fun k h => by cases h
/-- Two rows of a call's own, in two blocks. -/
theorem two_rows {w : World} {base n k : Nat} {o l : Value} {xs : List Pe} {ys : List Int} (ho : w.ownsRow base 51 2 o n (xs.flatMap PeV)) (hl : w.ownsRow base 3 1 l k (ys.map (Value.int .i64))) (hap : Apart o l) (hb : base ≤ w.heap.size) :
    ∃ lo1 hi1 lo2 hi2, RowP lo1 hi1 w o xs ∧ RowI lo2 hi2 w l ys ∧ (hi1 ≤ lo2 ∨ hi2 ≤ lo1) ∧ base ≤ lo1 ∧ hi1 ≤ w.heap.size ∧ base ≤ lo2 ∧ hi2 ≤ w.heap.size := by
  have h1 := ho
  have h2 := hl
  obtain ⟨el, ec⟩ := ho
  obtain ⟨fl, fc⟩ := hl
  have hn : n = xs.length := by
    rw [flat_len PeV_len] at el
    omega
  have hk : k = ys.length := by simpa using fl.symm
  subst hn hk
  rcases ec with ⟨rfl, e1⟩ | ⟨g, cap, cur, rfl, hg, hh, hle, hcap, hsz, htk⟩
  · obtain rfl : xs = [] := List.length_eq_zero_iff.1 e1
    exact ⟨base, base, base, w.heap.size, RowC.nil0, RowI.of_owns h2, .inl (Nat.le_refl _), Nat.le_refl _, hb, Nat.le_refl _, Nat.le_refl _⟩
  · have hgw : g < w.heap.size := (Array.getElem?_eq_some_iff.1 hh).1
    have R1 : RowP g (g + 1) w (.slice (some ⟨g, 0, none⟩) xs.length cap) xs := by
      refine ⟨_, cap, rfl, ⟨hle, fun h => by cases h⟩, hcap, fun _ => ⟨g, 0, rfl, Nat.le_refl _, Nat.lt_succ_self _, fun j hj => ⟨?_, ?_⟩⟩⟩
      · rw [Nat.zero_add, h1.cellAt j hj]
      · rw [Nat.zero_add]
        exact h1.frozenAt j
    rcases fc with ⟨rfl, e1⟩ | ⟨g', cap', cur', rfl, hg', hh', hle', hcap', hsz', htk'⟩
    · obtain rfl : ys = [] := List.length_eq_zero_iff.1 e1
      exact ⟨g, g + 1, base, base, R1, RowI.nil0, .inr hg, hg, hgw, Nat.le_refl _, hb⟩
    · have hgw' : g' < w.heap.size := (Array.getElem?_eq_some_iff.1 hh').1
      have hne : g ≠ g' := fun e => hap g rfl (by rw [e]; rfl)
      have R2 : RowI g' (g' + 1) w (.slice (some ⟨g', 0, none⟩) ys.length cap') ys := by
        obtain ⟨p, c, e, a1, a2, a3⟩ := RowI.of_owns h2
        cases e
        refine ⟨_, _, rfl, a1, a2, fun hne => ?_⟩
        obtain ⟨b, off, e, _, _, a4⟩ := a3 hne
        cases e
        exact ⟨g', 0, rfl, Nat.le_refl _, Nat.lt_succ_self _, a4⟩
      exact ⟨g, g + 1, g', g' + 1, R1, R2, by omega, hg, hgw, hg', hgw'⟩

set_option maxHeartbeats 4000000 in
theorem pDiv_any {lo hi : Nat} {w : World} {v : Value} {xs : List Pe} (hx : RowP lo hi w v xs) (hh : hi ≤ w.heap.size) (hval : ∀ p ∈ xs, miB p.m = true) (hlen : xs.length ≤ 16) :
    Calls Try.prog 61 #[v] w fun e w' => ∃ o l, e = .returned (.tuple #[o, l]) ∧ w'.ownsRow w.heap.size 51 2 o (agA xs).length ((agA xs).flatMap PeV) ∧ w'.ownsRow w.heap.size 3 1 l (agD xs).length ((agD xs).map (Value.int .i64)) ∧ Apart o l ∧ Below w.heap.size w w' := by
  obtain ⟨p, cc, rfl, hn, hp⟩ := hx.pes hh
  go_enter Try.func61, Try.ntmps61
  go_wp2
  go_loopw [4, 5, 10] (fun o l i wr => ∃ (m : Nat), m ≤ xs.length ∧ i = .int .i64 m ∧ wr.ownsRow w.heap.size 51 2 o (agA (xs.take m)).length ((agA (xs.take m)).flatMap PeV) ∧ wr.ownsRow w.heap.size 3 1 l (agD (xs.take m)).length ((agD (xs.take m)).map (Value.int .i64)) ∧ Apart o l ∧ Below w.heap.size w wr) (fun _ _ i _ => xs.length - (intOf i).toNat)
  case atStart => exact ⟨0, Nat.zero_le _, rfl, ⟨rfl, .inl ⟨rfl, rfl⟩⟩, ⟨rfl, .inl ⟨rfl, rfl⟩⟩, apart_none _, Below.refl _ _⟩
  case round =>
    obtain ⟨m, hm, rfl, own, owl, hap, hbr⟩ := hrel
    by_cases hlt : m < xs.length
    · have hlt' : (m : Int) < (xs.length : Int) := by omega
      have hA := agA_step hlt
      have hD := agD_step hlt
      have hAl := agA_len xs m
      have hDl := agD_len xs m
      have hpl := miB_yes (hval _ (List.getElem_mem hlt))
      obtain ⟨bb, off, rfl, _, hbb, hc⟩ := hp (by omega)
      have it1 := (hc m hlt).below hbr hbb
      rw [getD_in _ _ hlt] at it1
      obtain ⟨c1, c2⟩ := it1
      generalize agA (xs.take m) = out at own hA hAl
      generalize agD (xs.take m) = ls at owl hD hDl
      have OA := toHid own
      have OD := toHid owl
      have AP := toHid hap
      clear own owl hap
      by_cases hin : agP xs[m] = true
      · rw [if_pos hin, List.append_nil] at hA
        rw [if_pos hin] at hD
        replace hA := toHid hA
        replace hD := toHid hD
        have h3 : xs[m].m = 2 := by simp [agP] at hin; omega
        clear hc hp hin
        generalize xs[m] = z at *
        obtain ⟨zn, zm⟩ := z
        dsimp only at c1 c2 hpl h3
        subst h3
        go_wp2_with (at_builtin; refine app_ints2 rfl (.tmp 21) (.tmp 24) rfl w.heap.size _ ls.length ls rfl ((OD.out.alloc _).alloc _) ⟨wr.heap.size + 1, 0, none⟩ 1 1 [zn] rfl rfl (by omega) (fun j hj => ?_) (by omega) (by have := hbr.size; simp; omega) ?_; · (rw [add_plain, Nat.zero_add]; refine ((Box.newAt _ _ (by simp)).2.1 j).trans ?_; (obtain rfl : j = 0 := by omega); rfl))
        intro v' w4 hown4 hgr4 hbel4 hw4
        have R1 : Hid (w4.ownsRow w.heap.size 51 2 u4 out.length (out.flatMap PeV)) := toHid (((OA.out.alloc _).alloc _).kept hgr4 AP.out.kept)
        have R2 : Hid (w4.ownsRow w.heap.size 3 1 v' (ls ++ [zn]).length ((ls ++ [zn]).map (Value.int .i64))) := toHid (by simpa using hown4)
        have R3 : Hid (Apart u4 v') := toHid (AP.out.symm.after hw4 (fun k hk => by have := (OA.out.lt k hk).2; simp; omega)).symm
        clear hown4 hgr4 hw4
        go_wp2
        go_roundw
        case rel => exact ⟨m + 1, by omega, by go_num, by rw [hA.out]; exact R1.out, by rw [hD.out]; exact R2.out, R3.out, ((hbr.onA _).onA _).trans hbel4⟩
        case measure => simp [intOf]; omega
      · rw [if_neg hin] at hA
        rw [if_neg hin, List.append_nil] at hD
        replace hA := toHid hA
        replace hD := toHid hD
        have h3 : ¬ xs[m].m + 1 = 3 := by simpa [agP] using hin
        clear hc hp hin
        generalize xs[m] = z at *
        obtain ⟨zn, zm⟩ := z
        dsimp only at c1 c2 hpl h3
        go_wp2_with (at_builtin; refine app_pes2 rfl (.tmp 26) (.tmp 28) rfl w.heap.size _ out.length out rfl ((OA.out.alloc _).alloc _) ⟨wr.heap.size + 1, 0, none⟩ 1 1 [⟨zn, zm + 1⟩] rfl rfl (by omega) (fun j hj => ?_) (by omega) (by have := hbr.size; simp; omega) ?_; · (rw [add_plain, Nat.zero_add]; refine ((Box.newAt _ _ (by simp)).2.1 j).trans ?_; simp [PeV]))
        intro v' w4 hown4 hgr4 hbel4 hw4
        have R1 : Hid (w4.ownsRow w.heap.size 51 2 v' (out ++ ([⟨zn, zm + 1⟩] : List Pe)).length ((out ++ ([⟨zn, zm + 1⟩] : List Pe)).flatMap PeV)) := toHid (by simpa using hown4)
        have R2 : Hid (w4.ownsRow w.heap.size 3 1 u5 ls.length (ls.map (Value.int .i64))) := toHid (((OD.out.alloc _).alloc _).kept hgr4 AP.out.symm.kept)
        have R3 : Hid (Apart v' u5) := toHid (AP.out.after hw4 (fun k hk => by have := (OD.out.lt k hk).2; simp; omega))
        clear hown4 hgr4 hw4
        go_wp2
        go_roundw
        case rel => exact ⟨m + 1, by omega, by go_num, by rw [hA.out]; exact R1.out, by rw [hD.out]; exact R2.out, R3.out, ((hbr.onA _).onA _).trans hbel4⟩
        case measure => simp [intOf]; omega
    · have hm2 : m = xs.length := by omega
      subst hm2
      rw [List.take_length] at own owl
      go_wp2
      go_ret2
      exact ⟨_, _, rfl, own, owl, hap, hbr⟩

set_option maxHeartbeats 400000 in
theorem pAge_any {lo hi : Nat} {w : World} {v : Value} {xs : List Pe} (hx : RowP lo hi w v xs) (hh : hi ≤ w.heap.size) (b : Int) :
    Calls Try.prog 38 #[.int .i64 b, v] w fun e w' => ∃ o l, e = .returned (.tuple #[o, l, .int .i64 (agE b xs)]) ∧
      (∃ lo1 hi1 lo2 hi2, RowP lo1 hi1 w' o (agL b xs) ∧ RowI lo2 hi2 w' l (agG b xs) ∧ (hi1 ≤ lo2 ∨ hi2 ≤ lo1) ∧ w.heap.size ≤ lo1 ∧ hi1 ≤ w'.heap.size ∧ w.heap.size ≤ lo2 ∧ hi2 ≤ w'.heap.size) ∧ Below w.heap.size w w' := by
  rcases Bool.eq_false_or_eq_true (psB b xs) with hs | hs
  · obtain ⟨h0, hv, hr, hl⟩ := psB_iff.1 hs
    have HM := pMay_is hx hh hs
    have HD : Hid (∀ w', Below w.heap.size w w' → _) := fun w' hb => pDiv_any (hx.below hb hh) (Nat.le_trans hh hb.size) (fun p hp => (peB_iff.1 (hv p hp)).2.2) hl
    rw [(ag_yes hs).1, (ag_yes hs).2.1, (ag_yes hs).2.2]
    obtain ⟨p, cc, rfl, hn, -⟩ := hx.pes hh
    clear hv hr hs hx
    generalize agA xs = la at *
    generalize agD xs = ld at *
    go_enter Try.func38, Try.ntmps38
    go_wp2_with (first
      | (go_at_call 49; refine HM.mono ?_; rintro e w1 ⟨rfl, h1⟩)
      | (go_at_call 61; refine (HD.out _ h1).mono ?_; rintro e w2 ⟨o, l, rfl, own, owl, hap, h2⟩
         have R := toHid (two_rows own owl hap h2.size)
         clear own owl hap))
    go_ret3
    obtain ⟨lo1, hi1, lo2, hi2, r1, r2, r3, r4, r5, r6, r7⟩ := R.out
    exact ⟨o, l, rfl, ⟨lo1, hi1, lo2, hi2, r1, r2, r3, Nat.le_trans h1.size r4, r5, Nat.le_trans h1.size r6, r7⟩, h1.on h2⟩
  · have HM := pMay_is hx hh hs
    rw [(ag_no hs).1, (ag_no hs).2.1, (ag_no hs).2.2]
    obtain ⟨p, cc, rfl, hn, -⟩ := hx.pes hh
    clear hs hx
    go_enter Try.func38, Try.ntmps38
    go_wp2_with (first
      | (go_at_call 49; refine HM.mono ?_; rintro e w1 ⟨rfl, h1⟩))
    go_ret3
    exact ⟨_, _, rfl, ⟨w.heap.size, w.heap.size, w.heap.size, w.heap.size, RowC.nil0, RowI.nil0, .inl (Nat.le_refl _), Nat.le_refl _, h1.size, Nat.le_refl _, h1.size⟩, h1⟩

end Go.Proofs.Ytghamcomjfholaa
