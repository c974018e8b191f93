
/-
  Contracts of package peers' functions that make lists (a copy; with one heard; with a new one; those that are left and those that are lost), at every list of peers: what they return, in new memory, and that no old memory has turned.
-/
import Derived.Test.YtgopjjclobgekaaPeerA
import Derived.Test.YtgopjjclobgekaaRowPart
import Derived.Test.YtgopjjclobgekaaLaw0
import Derived.WalkSpells
import Derived.OneCell
namespace Go.Proofs.Ytgopjjclobgekaa
open Go.ChangeShapes Go.WideShapes Go.ChangeAt Go.RowKit

set_option maxHeartbeats 400000 in
theorem pClone_any {lo hi : Nat} {w : World} {v : Value} {xs : List Pe} (hx : RowP lo hi w v xs) (h47 : xs.length * 16 ≤ 140737488355328) :
    Calls Try.prog 52 #[v] w fun e w' => ∃ u, e = .returned u ∧ w'.ownsRow w.heap.size 42 2 u xs.length (xs.flatMap PeV) ∧ Below w.heap.size w w' := by
  have hx' := hx.alloc (.cells #[] 42) PeV_len
  obtain ⟨p, c, rfl, ⟨hl, hpn⟩, hc, hpx⟩ := hx
  have q22 : ∀ (w : World) (a : Option Addr) (n c n' c' : Nat), (binOp .eql 22 (.slice a n c) (.slice none n' c')).run Try.prog w = .ok (.bool a.isNone) w := fun w a n c n' c' => Lib.run_eql_slice_nil w _ _ a n c n' c' Try.underlying22
  cases p with
  | none =>
    have hn : xs = [] := by
      by_cases e : xs = []
      · exact e
      · obtain ⟨b, off, h0, _⟩ := hpx e
        cases h0
    subst hn
    clear hx' hpx
    go_enter Try.func52, Try.ntmps52
    go_wp2
    go_ret
    exact ⟨_, rfl, ⟨rfl, .inl ⟨rfl, rfl⟩⟩, Below.refl _ _⟩
  | some ad =>
    clear hpx
    go_enter Try.func52, Try.ntmps52
    go_wp2_with (at_builtin; refine app_rowP rfl (.tmp 5) (.tmp 6) rfl w.heap.size _ 0 [] rfl (World.ownsRow_lit w #[] 0 (Nat.le_refl _) (Nat.zero_le _) rfl) lo hi _ xs rfl hx' (by omega) (by simp) ?_; intro v' w' hown hgr hbel)
    go_ret
    exact ⟨_, rfl, by simpa using hown, ((Below.refl _ w).alloc (Nat.le_refl _) _).trans hbel⟩

/-- The missed count at place m is written over. -/
theorem pes_set {w : World} {b off : Nat} {zs : List Pe} (h : ∀ j, j < zs.length * 2 → w.cell? ⟨b, off + j, none⟩ = (zs.flatMap PeV)[j]? ∧ w.frozen? ⟨b, off + j, none⟩ = false) (m : Nat) (hm : m < zs.length) (x : Int) :
    ∀ j, j < (zs.set m ⟨zs[m].n, x⟩).length * 2 → (w.setCell ⟨b, off + m * 2 + 1, none⟩ (.int .i64 x)).cell? ⟨b, off + j, none⟩ = ((zs.set m ⟨zs[m].n, x⟩).flatMap PeV)[j]? ∧ (w.setCell ⟨b, off + m * 2 + 1, none⟩ (.int .i64 x)).frozen? ⟨b, off + j, none⟩ = false := by
  intro j hj
  rw [List.length_set] at hj
  refine ⟨?_, (World.frozen?_setCell _ _ _ _).trans (h j hj).2⟩
  obtain ⟨q, r, rfl, hr⟩ : ∃ q r, j = q * 2 + r ∧ r < 2 := ⟨j / 2, j % 2, by omega, by omega⟩
  have hq : q < zs.length := by omega
  rw [flat_at PeV_len (zs.set m ⟨zs[m].n, x⟩) q r (by rw [List.length_set]; exact hq) hr]
  by_cases e : m = q ∧ r = 1
  · obtain ⟨rfl, rfl⟩ := e
    rw [List.getElem_set_self, ← Nat.add_assoc]
    exact World.cell?_setCell_same _ _ _ (pesAt h m hm).2
  · rw [World.cell?_setCell_other _ _ _ _ (by intro e2; have := congrArg Addr.off e2; simp at this; omega), (h _ hj).1, flat_at PeV_len zs q r hq hr]
    by_cases e1 : m = q
    · subst e1
      obtain rfl : r = 0 := by omega
      rw [List.getElem_set_self]
      rfl
    · rw [List.getElem_set_ne e1]

set_option maxHeartbeats 400000 in
theorem pHeardOf_any {lo hi : Nat} {w : World} {v : Value} {xs : List Pe} (hx : RowP lo hi w v xs) (hh : hi ≤ w.heap.size) (hl : xs.length ≤ 16) (m : Nat) (hm : m < xs.length) :
    Calls Try.prog 68 #[v, .int .i64 m] w fun e w' => ∃ o, e = .returned o ∧ RowP w.heap.size w'.heap.size w' o (xs.set m ⟨xs[m].n, 0⟩) ∧ Below w.heap.size w w' := by
  have HC := pClone_any hx (by omega)
  obtain ⟨ys, hys⟩ : ∃ ys, Hid (xs.set m ⟨xs[m].n, 0⟩ = ys) := ⟨_, toHid rfl⟩
  rw [hys.out]
  replace HC : Calls Try.prog 52 #[v] w fun e w' => ∃ gb cp a1 a2, e = .returned (.slice (some ⟨gb, 0, none⟩) xs.length cp) ∧ w'.cell? ⟨gb, m * 2, none⟩ = some (.int .i64 a1) ∧ w'.cell? ⟨gb, m * 2 + 1, none⟩ = some (.int .i64 a2) ∧ w'.frozen? ⟨gb, m * 2 + 1, none⟩ = false ∧
      Hid (RowP w.heap.size (w'.setCell ⟨gb, m * 2 + 1, none⟩ (.int .i64 0)).heap.size (w'.setCell ⟨gb, m * 2 + 1, none⟩ (.int .i64 0)) (.slice (some ⟨gb, 0, none⟩) xs.length cp) ys) ∧ w.heap.size ≤ gb ∧ Below w.heap.size w w' := HC.mono fun e w1 ⟨o, he, own, hb1⟩ => by
    have hcf : ∀ gb cp, o = .slice (some ⟨gb, 0, none⟩) xs.length cp → ∀ j, j < xs.length * 2 → w1.cell? ⟨gb, 0 + j, none⟩ = (xs.flatMap PeV)[j]? ∧ w1.frozen? ⟨gb, 0 + j, none⟩ = false := by
      intro gb cp e j hj
      subst e
      rw [Nat.zero_add]
      exact ⟨own.cellAt j hj, own.frozenAt j⟩
    rcases own.2 with ⟨_, e0⟩ | ⟨gb, cp, cur, rfl, hg, hh1, hle, hcap, _⟩
    · omega
    replace hcf := hcf gb cp rfl
    have hgw : gb < w1.heap.size := (Array.getElem?_eq_some_iff.1 hh1).1
    obtain ⟨g1, g2⟩ := pesAt hcf m hm
    have f2 := (hcf (m * 2 + 1) (by omega)).2
    rw [Nat.zero_add] at g1 g2 f2
    refine ⟨gb, cp, _, _, he, g1, g2, f2, ?_, hg, hb1⟩
    rw [← hys.out]
    have h5 := pes_set (w := w1) (b := gb) (off := 0) (zs := xs) hcf m hm 0
    simp only [Nat.zero_add] at h5
    refine ⟨some ⟨gb, 0, none⟩, cp, by rw [List.length_set], ⟨by rw [List.length_set]; exact hle, fun h => by cases h⟩, hcap, fun _ => ⟨gb, 0, rfl, hg, by rw [World.size_setCell]; exact hgw, ?_⟩⟩
    simpa only [Nat.zero_add] using h5
  obtain ⟨p, cc, rfl, hn, -⟩ := hx.pes hh
  have hm' : (m : Int) < (xs.length : Int) := by omega
  clear hys hx
  go_enter Try.func68, Try.ntmps68
  go_wp2_with (first
    | (go_at_call 52; refine HC.mono ?_; rintro e w1 ⟨gb, cp, a1, a2, rfl, g1, g2, f2, HS, hg, hb1⟩))
  go_ret
  exact ⟨_, rfl, HS.out, hb1.setCell hg _⟩

set_option maxHeartbeats 400000 in
theorem pNew_any {lo hi : Nat} {w : World} {v : Value} {xs : List Pe} (hx : RowP lo hi w v xs) (hh : hi ≤ w.heap.size) (hl : xs.length ≤ 16) (m : Nat) (hm : m ≤ xs.length) (d : Int) :
    Calls Try.prog 69 #[v, .int .i64 m, .int .i64 d] w fun e w' => ∃ o, e = .returned o ∧ RowP w.heap.size w'.heap.size w' o (xs.take m ++ (⟨d, 0⟩ :: xs.drop m)) ∧ Below w.heap.size w w' := by
  obtain ⟨i0, hi, hz0, hz1, hz2⟩ := info_parts Try.infoPe
  rcases Nat.eq_zero_or_pos xs.length with h0 | h0
  · obtain rfl : xs = [] := List.length_eq_zero_iff.1 h0
    obtain rfl : m = 0 := by simpa using hm
    obtain ⟨p, cc, rfl, ⟨hcc, hpn⟩, hcm, -⟩ := hx
    unfold maxLen at hcm
    cases p with
    | none =>
      obtain rfl := hpn rfl
      go_enter Try.func69, Try.ntmps69
      go_wp2_with (at_make; refine wpList_make_own _ rfl _ _ 22 rfl w.heap.size 42 i0 _ 2 Try.underlying22 hi hz0 hz1 _ _ _ (1) rfl rfl (by simp) (by rw [hz2]; omega) (by unfold maxLen; omega) (by simp) ?_)
      intro w1 hown1 hgr1
      have hB1 : Below w.heap.size w w1 := (Below.refl _ _).grown hgr1 (by simp) (fun j hj => by cases hj)
      clear hgr1
      have hown0 : Hid (w1.ownsRow w.heap.size 42 2 (.slice (some ⟨w.heap.size, 0, none⟩) 0 (1)) 0 (([] : List Pe).flatMap PeV)) := toHid (by simpa using hown1)
      clear hown1
      have hW1 : w.heap.size ≤ w1.heap.size := hB1.size
      have rT : RowP 0 0 w1 (.slice none 0 0) [] := RowC.nil0
      go_wp2_with (at_builtin; refine app_rowP rfl (.tmp 12) (.tmp 15) rfl w.heap.size _ 0 [] rfl hown0.out _ _ _ _ rfl rT (by simp) hW1 ?_)
      intro v2 w2 hown2 hgr2 hA2
      clear hgr2 rT
      have hB2 := hB1.trans hA2
      clear hA2
      have hown2' : Hid (w2.ownsRow w.heap.size 42 2 v2 (0) (([] : List Pe).flatMap PeV)) := toHid (by simpa using hown2)
      clear hown2
      have hW2 : w.heap.size ≤ w2.heap.size := hB2.size
      go_wp2_with (at_builtin; refine app_pes rfl (.tmp 17) (.tmp 20) rfl w.heap.size _ _ _ rfl (hown2'.out.alloc _) ⟨w2.heap.size, 0, none⟩ 1 1 [⟨d, 0⟩] rfl rfl (fun j hj => ?_) (by simp) (by simp; omega) ?_; · (rw [add_plain, Nat.zero_add]; refine ((Box.newAt _ _ rfl).2.1 j).trans ?_; simp [PeV]))
      intro v3 w3 hown3 hgr3 hA3
      clear hgr3
      have hB3 := (hB2.alloc hW2 _).trans hA3
      clear hA3
      have hown3' : Hid (w3.ownsRow w.heap.size 42 2 v3 (0 + 1) (([⟨d, 0⟩] : List Pe).flatMap PeV)) := toHid (by simpa using hown3)
      clear hown3
      have hW3 : w.heap.size ≤ w3.heap.size := hB3.size
      have rD : RowP 0 0 w3 (.slice none 0 0) [] := RowC.nil0
      go_wp2_with (at_builtin; refine app_rowP rfl (.tmp 22) (.tmp 25) rfl w.heap.size _ _ _ rfl hown3'.out _ _ _ _ rfl rD (by simp) hW3 ?_)
      intro v4 w4 hown4 hgr4 hA4
      clear hgr4 rD
      have hB4 := hB3.trans hA4
      clear hA4
      have hown4' : Hid (w4.ownsRow w.heap.size 42 2 v4 1 (([⟨d, 0⟩] : List Pe).flatMap PeV)) := toHid (by simpa using hown4)
      clear hown4
      go_wp2
      go_ret
      refine ⟨_, rfl, ?_, hB4⟩
      have R := RowC.of_owns (by omega) PeV_len hown4'.out
      simpa using R
    | some ad =>
      rcases Nat.eq_zero_or_pos cc with hc0 | hc0
      · subst hc0
        go_enter Try.func69, Try.ntmps69
        go_wp2_with (at_make; refine wpList_make_own _ rfl _ _ 22 rfl w.heap.size 42 i0 _ 2 Try.underlying22 hi hz0 hz1 _ _ _ (1) rfl rfl (by simp) (by rw [hz2]; omega) (by unfold maxLen; omega) (by simp) ?_)
        intro w1 hown1 hgr1
        have hB1 : Below w.heap.size w w1 := (Below.refl _ _).grown hgr1 (by simp) (fun j hj => by cases hj)
        clear hgr1
        have hown0 : Hid (w1.ownsRow w.heap.size 42 2 (.slice (some ⟨w.heap.size, 0, none⟩) 0 (1)) 0 (([] : List Pe).flatMap PeV)) := toHid (by simpa using hown1)
        clear hown1
        have hW1 : w.heap.size ≤ w1.heap.size := hB1.size
        have rT : ∀ w ad cap, cap ≤ 9223372036854775807 → RowP 0 0 w (.slice (some ad) 0 cap) [] := fun w ad cap h => RowC.nil h (fun h => by cases h)
        go_wp2_with (at_builtin; refine app_rowP rfl (.tmp 12) (.tmp 15) rfl w.heap.size _ 0 [] rfl hown0.out _ _ _ _ rfl (rT _ _ _ (by omega)) (by simp) hW1 ?_)
        intro v2 w2 hown2 hgr2 hA2
        clear hgr2 rT
        have hB2 := hB1.trans hA2
        clear hA2
        have hown2' : Hid (w2.ownsRow w.heap.size 42 2 v2 (0) (([] : List Pe).flatMap PeV)) := toHid (by simpa using hown2)
        clear hown2
        have hW2 : w.heap.size ≤ w2.heap.size := hB2.size
        go_wp2_with (at_builtin; refine app_pes rfl (.tmp 17) (.tmp 20) rfl w.heap.size _ _ _ rfl (hown2'.out.alloc _) ⟨w2.heap.size, 0, none⟩ 1 1 [⟨d, 0⟩] rfl rfl (fun j hj => ?_) (by simp) (by simp; omega) ?_; · (rw [add_plain, Nat.zero_add]; refine ((Box.newAt _ _ rfl).2.1 j).trans ?_; simp [PeV]))
        intro v3 w3 hown3 hgr3 hA3
        clear hgr3
        have hB3 := (hB2.alloc hW2 _).trans hA3
        clear hA3
        have hown3' : Hid (w3.ownsRow w.heap.size 42 2 v3 (0 + 1) (([⟨d, 0⟩] : List Pe).flatMap PeV)) := toHid (by simpa using hown3)
        clear hown3
        have hW3 : w.heap.size ≤ w3.heap.size := hB3.size
        have rD : ∀ w ad cap, cap ≤ 9223372036854775807 → RowP 0 0 w (.slice (some ad) 0 cap) [] := fun w ad cap h => RowC.nil h (fun h => by cases h)
        go_wp2_with (at_builtin; refine app_rowP rfl (.tmp 22) (.tmp 25) rfl w.heap.size _ _ _ rfl hown3'.out _ _ _ _ rfl (rD _ _ _ (by omega)) (by simp) hW3 ?_)
        intro v4 w4 hown4 hgr4 hA4
        clear hgr4 rD
        have hB4 := hB3.trans hA4
        clear hA4
        have hown4' : Hid (w4.ownsRow w.heap.size 42 2 v4 1 (([⟨d, 0⟩] : List Pe).flatMap PeV)) := toHid (by simpa using hown4)
        clear hown4
        go_wp2
        go_ret
        refine ⟨_, rfl, ?_, hB4⟩
        have R := RowC.of_owns (by omega) PeV_len hown4'.out
        simpa using R
      · have hc1 : ¬ cc = 0 := by omega
        go_enter Try.func69, Try.ntmps69
        go_wp2_with (at_make; refine wpList_make_own _ rfl _ _ 22 rfl w.heap.size 42 i0 _ 2 Try.underlying22 hi hz0 hz1 _ _ _ (1) rfl rfl (by simp) (by rw [hz2]; omega) (by unfold maxLen; omega) (by simp) ?_)
        intro w1 hown1 hgr1
        have hB1 : Below w.heap.size w w1 := (Below.refl _ _).grown hgr1 (by simp) (fun j hj => by cases hj)
        clear hgr1
        have hown0 : Hid (w1.ownsRow w.heap.size 42 2 (.slice (some ⟨w.heap.size, 0, none⟩) 0 (1)) 0 (([] : List Pe).flatMap PeV)) := toHid (by simpa using hown1)
        clear hown1
        have hW1 : w.heap.size ≤ w1.heap.size := hB1.size
        have rT : ∀ w ad cap, cap ≤ 9223372036854775807 → RowP 0 0 w (.slice (some ad) 0 cap) [] := fun w ad cap h => RowC.nil h (fun h => by cases h)
        go_wp2_with (at_builtin; refine app_rowP rfl (.tmp 12) (.tmp 15) rfl w.heap.size _ 0 [] rfl hown0.out _ _ _ _ rfl (rT _ _ _ (by omega)) (by simp) hW1 ?_)
        intro v2 w2 hown2 hgr2 hA2
        clear hgr2 rT
        have hB2 := hB1.trans hA2
        clear hA2
        have hown2' : Hid (w2.ownsRow w.heap.size 42 2 v2 (0) (([] : List Pe).flatMap PeV)) := toHid (by simpa using hown2)
        clear hown2
        have hW2 : w.heap.size ≤ w2.heap.size := hB2.size
        go_wp2_with (at_builtin; refine app_pes rfl (.tmp 17) (.tmp 20) rfl w.heap.size _ _ _ rfl (hown2'.out.alloc _) ⟨w2.heap.size, 0, none⟩ 1 1 [⟨d, 0⟩] rfl rfl (fun j hj => ?_) (by simp) (by simp; omega) ?_; · (rw [add_plain, Nat.zero_add]; refine ((Box.newAt _ _ rfl).2.1 j).trans ?_; simp [PeV]))
        intro v3 w3 hown3 hgr3 hA3
        clear hgr3
        have hB3 := (hB2.alloc hW2 _).trans hA3
        clear hA3
        have hown3' : Hid (w3.ownsRow w.heap.size 42 2 v3 (0 + 1) (([⟨d, 0⟩] : List Pe).flatMap PeV)) := toHid (by simpa using hown3)
        clear hown3
        have hW3 : w.heap.size ≤ w3.heap.size := hB3.size
        have rD : ∀ w ad cap, cap ≤ 9223372036854775807 → RowP 0 0 w (.slice (some ad) 0 cap) [] := fun w ad cap h => RowC.nil h (fun h => by cases h)
        go_wp2_with (at_builtin; refine app_rowP rfl (.tmp 22) (.tmp 25) rfl w.heap.size _ _ _ rfl hown3'.out _ _ _ _ rfl (rD _ _ _ (by omega)) (by simp) hW3 ?_)
        intro v4 w4 hown4 hgr4 hA4
        clear hgr4 rD
        have hB4 := hB3.trans hA4
        clear hA4
        have hown4' : Hid (w4.ownsRow w.heap.size 42 2 v4 1 (([⟨d, 0⟩] : List Pe).flatMap PeV)) := toHid (by simpa using hown4)
        clear hown4
        go_wp2
        go_ret
        refine ⟨_, rfl, ?_, hB4⟩
        have R := RowC.of_owns (by omega) PeV_len hown4'.out
        simpa using R
  · have hx0 := hx
    obtain ⟨p, cc, rfl, ⟨hcc, _⟩, hcm, hp⟩ := hx
    unfold maxLen at hcm
    obtain ⟨b, off, rfl, _, _, _⟩ := hp (by intro e; rw [e] at h0; exact absurd h0 (Nat.lt_irrefl _))
    have RT : Hid (∀ w', Below w.heap.size w w' → _) := fun w' hb => (hx0.below hb hh).take PeV_len m hm
    have RD : Hid (∀ w', Below w.heap.size w w' → _) := fun w' hb => (hx0.below hb hh).drop PeV_len m hm
    have hm1 : (m : Int) ≤ (xs.length : Int) := by omega
    have hm2 : (m : Int) ≤ (cc : Int) := by omega
    have htl : (xs.take m).length = m := by rw [List.length_take]; omega
    have hdl : (xs.drop m).length = xs.length - m := List.length_drop
    replace htl := toHid htl
    replace hdl := toHid hdl
    clear hp
    by_cases hcm0 : cc = m
    · have hdr : Hid (xs.drop m = []) := toHid (List.drop_eq_nil_of_le (by omega))
      subst hcm0
      clear RD
      go_enter Try.func69, Try.ntmps69
      go_wp2_with (at_make; refine wpList_make_own _ rfl _ _ 22 rfl w.heap.size 42 i0 _ 2 Try.underlying22 hi hz0 hz1 _ _ _ (xs.length + 1) rfl rfl (by simp) (by rw [hz2]; omega) (by unfold maxLen; omega) (by simp) ?_)
      intro w1 hown1 hgr1
      have hB1 : Below w.heap.size w w1 := (Below.refl _ _).grown hgr1 (by simp) (fun j hj => by cases hj)
      clear hgr1
      have hown0 : Hid (w1.ownsRow w.heap.size 42 2 (.slice (some ⟨w.heap.size, 0, none⟩) 0 (xs.length + 1)) 0 (([] : List Pe).flatMap PeV)) := toHid (by simpa using hown1)
      clear hown1
      have hW1 : w.heap.size ≤ w1.heap.size := hB1.size
      have rT := RT.out w1 hB1
      go_wp2_with (at_builtin; refine app_rowP rfl (.tmp 12) (.tmp 15) rfl w.heap.size _ 0 [] rfl hown0.out _ _ _ _ rfl rT (by have := htl.out; omega) hW1 ?_)
      intro v2 w2 hown2 hgr2 hA2
      clear hgr2 rT
      have hB2 := hB1.trans hA2
      clear hA2
      have hown2' : Hid (w2.ownsRow w.heap.size 42 2 v2 (cc) ((xs.take cc).flatMap PeV)) := toHid (by simpa using hown2)
      clear hown2
      have hW2 : w.heap.size ≤ w2.heap.size := hB2.size
      go_wp2_with (at_builtin; refine app_pes rfl (.tmp 17) (.tmp 20) rfl w.heap.size _ _ _ rfl (hown2'.out.alloc _) ⟨w2.heap.size, 0, none⟩ 1 1 [⟨d, 0⟩] rfl rfl (fun j hj => ?_) (by omega) (by simp; omega) ?_; · (rw [add_plain, Nat.zero_add]; refine ((Box.newAt _ _ rfl).2.1 j).trans ?_; simp [PeV]))
      intro v3 w3 hown3 hgr3 hA3
      clear hgr3
      have hB3 := (hB2.alloc hW2 _).trans hA3
      clear hA3
      have hown3' : Hid (w3.ownsRow w.heap.size 42 2 v3 (cc + 1) ((xs.take cc ++ ([⟨d, 0⟩] : List Pe)).flatMap PeV)) := toHid (by simpa using hown3)
      clear hown3
      have hW3 : w.heap.size ≤ w3.heap.size := hB3.size
      have rD : ∀ w ad cap, cap ≤ 9223372036854775807 → RowP 0 0 w (.slice (some ad) 0 cap) [] := fun w ad cap h => RowC.nil h (fun h => by cases h)
      go_wp2_with (at_builtin; refine app_rowP rfl (.tmp 22) (.tmp 25) rfl w.heap.size _ _ _ rfl hown3'.out _ _ _ _ rfl (rD _ _ _ (by omega)) (by simp; omega) hW3 ?_)
      intro v4 w4 hown4 hgr4 hA4
      clear hgr4 rD
      have hB4 := hB3.trans hA4
      clear hA4
      have hown4' : Hid (w4.ownsRow w.heap.size 42 2 v4 (cc + 1) ((xs.take cc ++ ([⟨d, 0⟩] : List Pe)).flatMap PeV)) := toHid (by simpa using hown4)
      clear hown4
      go_wp2
      go_ret
      refine ⟨_, rfl, ?_, hB4⟩
      have R := RowC.of_owns (by omega) PeV_len hown4'.out
      rw [hdr.out]
      exact R
    · have hcm1 : ¬ (cc : Int) = (m : Int) := by omega
      have hcm2 : ¬ cc - m = 0 := by omega
      go_enter Try.func69, Try.ntmps69
      go_wp2_with (at_make; refine wpList_make_own _ rfl _ _ 22 rfl w.heap.size 42 i0 _ 2 Try.underlying22 hi hz0 hz1 _ _ _ (xs.length + 1) rfl rfl (by simp) (by rw [hz2]; omega) (by unfold maxLen; omega) (by simp) ?_)
      intro w1 hown1 hgr1
      have hB1 : Below w.heap.size w w1 := (Below.refl _ _).grown hgr1 (by simp) (fun j hj => by cases hj)
      clear hgr1
      have hown0 : Hid (w1.ownsRow w.heap.size 42 2 (.slice (some ⟨w.heap.size, 0, none⟩) 0 (xs.length + 1)) 0 (([] : List Pe).flatMap PeV)) := toHid (by simpa using hown1)
      clear hown1
      have hW1 : w.heap.size ≤ w1.heap.size := hB1.size
      have rT := RT.out w1 hB1
      go_wp2_with (at_builtin; refine app_rowP rfl (.tmp 12) (.tmp 15) rfl w.heap.size _ 0 [] rfl hown0.out _ _ _ _ rfl rT (by have := htl.out; omega) hW1 ?_)
      intro v2 w2 hown2 hgr2 hA2
      clear hgr2 rT
      have hB2 := hB1.trans hA2
      clear hA2
      have hown2' : Hid (w2.ownsRow w.heap.size 42 2 v2 (m) ((xs.take m).flatMap PeV)) := toHid (by simpa using hown2)
      clear hown2
      have hW2 : w.heap.size ≤ w2.heap.size := hB2.size
      go_wp2_with (at_builtin; refine app_pes rfl (.tmp 17) (.tmp 20) rfl w.heap.size _ _ _ rfl (hown2'.out.alloc _) ⟨w2.heap.size, 0, none⟩ 1 1 [⟨d, 0⟩] rfl rfl (fun j hj => ?_) (by omega) (by simp; omega) ?_; · (rw [add_plain, Nat.zero_add]; refine ((Box.newAt _ _ rfl).2.1 j).trans ?_; simp [PeV]))
      intro v3 w3 hown3 hgr3 hA3
      clear hgr3
      have hB3 := (hB2.alloc hW2 _).trans hA3
      clear hA3
      have hown3' : Hid (w3.ownsRow w.heap.size 42 2 v3 (m + 1) ((xs.take m ++ ([⟨d, 0⟩] : List Pe)).flatMap PeV)) := toHid (by simpa using hown3)
      clear hown3
      have hW3 : w.heap.size ≤ w3.heap.size := hB3.size
      have rD := RD.out w3 hB3
      go_wp2_with (at_builtin; refine app_rowP rfl (.tmp 22) (.tmp 25) rfl w.heap.size _ _ _ rfl hown3'.out _ _ _ _ rfl rD (by simp only [List.length_drop]; omega) hW3 ?_)
      intro v4 w4 hown4 hgr4 hA4
      clear hgr4 rD
      have hB4 := hB3.trans hA4
      clear hA4
      have hown4' : Hid (w4.ownsRow w.heap.size 42 2 v4 (m + 1 + (xs.length - m)) ((xs.take m ++ (⟨d, 0⟩ :: xs.drop m)).flatMap PeV)) := toHid (by simpa using hown4)
      clear hown4
      go_wp2
      go_ret
      refine ⟨_, rfl, ?_, hB4⟩
      have R := RowC.of_owns (by omega) PeV_len hown4'.out
      simpa using R

end Go.Proofs.Ytgopjjclobgekaa
