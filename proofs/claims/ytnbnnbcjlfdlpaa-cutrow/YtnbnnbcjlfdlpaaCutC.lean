
/-
  Contracts of package cuts' lists: a copy; with a new one; without one (slices.DeleteFunc at cuts): what they return, in new memory, and that no old memory has turned.
-/
import Derived.Test.YtnbnnbcjlfdlpaaCutB
import Derived.Test.YtnbnnbcjlfdlpaaRowPart
import Derived.Test.YtnbnnbcjlfdlpaaLaw0
import Derived.Test.YtnbnnbcjlfdlpaaLit
import Derived.WalkSpells
import Derived.OneCell
import Derived.Laws.IdiomCopy
namespace Go.Proofs.Ytnbnnbcjlfdlpaa
open Go.ChangeShapes Go.WideShapes Go.ChangeAt Go.RowKit

set_option maxHeartbeats 400000 in
theorem uCopied_any {lo hi : Nat} {w : World} {v : Value} {cs : List Cu} (hx : RowU lo hi w v cs) (h47 : cs.length * 16 ≤ 140737488355328) :
    Calls Try.prog 25 #[v] w fun e w' => ∃ u, e = .returned u ∧ w'.ownsRow w.heap.size 40 2 u cs.length (cs.flatMap CuV) ∧ Below w.heap.size w w' := by
  have hx0 := hx
  obtain ⟨p, c, rfl, -, hc, -⟩ := hx
  unfold maxLen at hc
  replace hx0 := toHid hx0
  go_enter Try.func25, Try.ntmps25
  go_wp2_with (at_builtin; refine app_rowU rfl _ _ rfl w.heap.size (.slice none 0 0) 0 [] rfl ⟨rfl, .inl ⟨rfl, rfl⟩⟩ lo hi _ cs rfl hx0.out (by omega) (Nat.le_refl _) ?_; intro v' w' hown hgr hbel)
  go_ret
  exact ⟨_, rfl, by simpa using hown, hbel⟩

set_option maxHeartbeats 400000 in
theorem uNew_any {lo hi : Nat} {w : World} {v : Value} {xs : List Cu} (hx : RowU lo hi w v xs) (hh : hi ≤ w.heap.size) (hl : xs.length ≤ 32) (m : Nat) (hm : m ≤ xs.length) (da db : Int) :
    Calls Try.prog 26 #[v, .int .i64 m, .agg #[.int .i64 da, .int .i64 db]] w fun e w' => ∃ o, e = .returned o ∧ RowU w.heap.size w'.heap.size w' o (xs.take m ++ (⟨da, db⟩ :: xs.drop m)) ∧ Below w.heap.size w w' := by
  replace hx := hx.alloc (.cells #[.int .i64 da, .int .i64 db] 40) CuV_len
  have BX := Box.new w #[.int .i64 da, .int .i64 db] 40
  have hWB := (Below.refl w.heap.size w).onA (.cells #[.int .i64 da, .int .i64 db] 40)
  obtain ⟨W, hW⟩ : ∃ W, w.alloc (.cells #[.int .i64 da, .int .i64 db] 40) = W := ⟨_, rfl⟩
  rw [hW] at hx BX hWB
  have hWz : w.heap.size < W.heap.size := BX.1
  replace hh : hi ≤ W.heap.size := Nat.le_trans hh hWB.size
  replace hW := toHid hW
  replace BX := toHid BX
  replace hWB := toHid hWB
  obtain ⟨i0, hi, hz0, hz1, hz2⟩ := info_parts Try.infoCu
  rcases Nat.eq_zero_or_pos xs.length with h0 | h0
  · obtain rfl : xs = [] := List.length_eq_zero_iff.1 h0
    obtain rfl : m = 0 := by simpa using hm
    obtain ⟨p, cc, rfl, ⟨hcc, hpn⟩, hcm, -⟩ := hx
    unfold maxLen at hcm
    cases p with
    | none =>
      obtain rfl := hpn rfl
      go_enter Try.func26, Try.ntmps26
      go_wp2_with (at_make; rw [hW.out]; refine wpList_make_own _ rfl _ _ 22 rfl W.heap.size 40 i0 _ 2 Try.underlying22 hi hz0 hz1 _ _ _ (1) rfl rfl (by simp) (by rw [hz2]; omega) (by unfold maxLen; omega) (by simp) ?_)
      intro w1 hown1 hgr1
      have hB1 : Below W.heap.size W w1 := (Below.refl _ _).grown hgr1 (by simp) (fun j hj => by cases hj)
      clear hgr1
      have hown0 : Hid (w1.ownsRow W.heap.size 40 2 (.slice (some ⟨W.heap.size, 0, none⟩) 0 (1)) 0 (([] : List Cu).flatMap CuV)) := toHid (by simpa using hown1)
      clear hown1
      have hW1 : W.heap.size ≤ w1.heap.size := hB1.size
      have rT : RowU 0 0 w1 (.slice none 0 0) [] := RowC.nil0
      go_wp2_with (at_builtin; refine app_rowU rfl (.tmp 12) (.tmp 15) rfl W.heap.size _ 0 [] rfl hown0.out _ _ _ _ rfl rT (by simp) hW1 ?_)
      intro v2 w2 hown2 hgr2 hA2
      clear hgr2 rT
      have hB2 := hB1.trans hA2
      clear hA2
      have hown2' : Hid (w2.ownsRow W.heap.size 40 2 v2 (0) (([] : List Cu).flatMap CuV)) := toHid (by simpa using hown2)
      clear hown2
      obtain ⟨b1, b2, b3⟩ := BX.out.belowAt hB2 hWz
      have hW2 : W.heap.size ≤ w2.heap.size := hB2.size
      go_wp2_with (at_builtin; refine app_cus rfl (.tmp 17) (.tmp 19) rfl W.heap.size _ _ _ rfl (hown2'.out.alloc _) ⟨w2.heap.size, 0, none⟩ 1 1 [⟨da, db⟩] rfl rfl (fun j hj => ?_) (by simp) (by simp; omega) ?_; · (rw [add_plain, Nat.zero_add]; refine ((Box.newAt _ _ rfl).2.1 j).trans ?_; simp [CuV]))
      intro v3 w3 hown3 hgr3 hA3
      clear hgr3
      have hB3 := (hB2.alloc hW2 _).trans hA3
      clear hA3
      have hown3' : Hid (w3.ownsRow W.heap.size 40 2 v3 (0 + 1) (([⟨da, db⟩] : List Cu).flatMap CuV)) := toHid (by simpa using hown3)
      clear hown3
      have hW3 : W.heap.size ≤ w3.heap.size := hB3.size
      have rD : RowU 0 0 w3 (.slice none 0 0) [] := RowC.nil0
      go_wp2_with (at_builtin; refine app_rowU rfl (.tmp 21) (.tmp 24) rfl W.heap.size _ _ _ rfl hown3'.out _ _ _ _ rfl rD (by simp) hW3 ?_)
      intro v4 w4 hown4 hgr4 hA4
      clear hgr4 rD
      have hB4 := hB3.trans hA4
      clear hA4
      have hown4' : Hid (w4.ownsRow W.heap.size 40 2 v4 1 (([⟨da, db⟩] : List Cu).flatMap CuV)) := toHid (by simpa using hown4)
      clear hown4
      go_wp2
      go_ret
      refine ⟨_, rfl, ?_, hWB.out.on hB4⟩
      have R := (RowC.of_owns (by omega) CuV_len hown4'.out).wide (Nat.le_of_lt hWz) (Nat.le_refl _)
      simpa using R
    | some ad =>
      rcases Nat.eq_zero_or_pos cc with hc0 | hc0
      · subst hc0
        go_enter Try.func26, Try.ntmps26
        go_wp2_with (at_make; rw [hW.out]; refine wpList_make_own _ rfl _ _ 22 rfl W.heap.size 40 i0 _ 2 Try.underlying22 hi hz0 hz1 _ _ _ (1) rfl rfl (by simp) (by rw [hz2]; omega) (by unfold maxLen; omega) (by simp) ?_)
        intro w1 hown1 hgr1
        have hB1 : Below W.heap.size W w1 := (Below.refl _ _).grown hgr1 (by simp) (fun j hj => by cases hj)
        clear hgr1
        have hown0 : Hid (w1.ownsRow W.heap.size 40 2 (.slice (some ⟨W.heap.size, 0, none⟩) 0 (1)) 0 (([] : List Cu).flatMap CuV)) := toHid (by simpa using hown1)
        clear hown1
        have hW1 : W.heap.size ≤ w1.heap.size := hB1.size
        have rT : ∀ W ad cap, cap ≤ 9223372036854775807 → RowU 0 0 W (.slice (some ad) 0 cap) [] := fun W ad cap h => RowC.nil h (fun h => by cases h)
        go_wp2_with (at_builtin; refine app_rowU rfl (.tmp 12) (.tmp 15) rfl W.heap.size _ 0 [] rfl hown0.out _ _ _ _ rfl (rT _ _ _ (by omega)) (by simp) hW1 ?_)
        intro v2 w2 hown2 hgr2 hA2
        clear hgr2 rT
        have hB2 := hB1.trans hA2
        clear hA2
        have hown2' : Hid (w2.ownsRow W.heap.size 40 2 v2 (0) (([] : List Cu).flatMap CuV)) := toHid (by simpa using hown2)
        clear hown2
        obtain ⟨b1, b2, b3⟩ := BX.out.belowAt hB2 hWz
        have hW2 : W.heap.size ≤ w2.heap.size := hB2.size
        go_wp2_with (at_builtin; refine app_cus rfl (.tmp 17) (.tmp 19) rfl W.heap.size _ _ _ rfl (hown2'.out.alloc _) ⟨w2.heap.size, 0, none⟩ 1 1 [⟨da, db⟩] rfl rfl (fun j hj => ?_) (by simp) (by simp; omega) ?_; · (rw [add_plain, Nat.zero_add]; refine ((Box.newAt _ _ rfl).2.1 j).trans ?_; simp [CuV]))
        intro v3 w3 hown3 hgr3 hA3
        clear hgr3
        have hB3 := (hB2.alloc hW2 _).trans hA3
        clear hA3
        have hown3' : Hid (w3.ownsRow W.heap.size 40 2 v3 (0 + 1) (([⟨da, db⟩] : List Cu).flatMap CuV)) := toHid (by simpa using hown3)
        clear hown3
        have hW3 : W.heap.size ≤ w3.heap.size := hB3.size
        have rD : ∀ W ad cap, cap ≤ 9223372036854775807 → RowU 0 0 W (.slice (some ad) 0 cap) [] := fun W ad cap h => RowC.nil h (fun h => by cases h)
        go_wp2_with (at_builtin; refine app_rowU rfl (.tmp 21) (.tmp 24) rfl W.heap.size _ _ _ rfl hown3'.out _ _ _ _ rfl (rD _ _ _ (by omega)) (by simp) hW3 ?_)
        intro v4 w4 hown4 hgr4 hA4
        clear hgr4 rD
        have hB4 := hB3.trans hA4
        clear hA4
        have hown4' : Hid (w4.ownsRow W.heap.size 40 2 v4 1 (([⟨da, db⟩] : List Cu).flatMap CuV)) := toHid (by simpa using hown4)
        clear hown4
        go_wp2
        go_ret
        refine ⟨_, rfl, ?_, hWB.out.on hB4⟩
        have R := (RowC.of_owns (by omega) CuV_len hown4'.out).wide (Nat.le_of_lt hWz) (Nat.le_refl _)
        simpa using R
      · have hc1 : ¬ cc = 0 := by omega
        go_enter Try.func26, Try.ntmps26
        go_wp2_with (at_make; rw [hW.out]; refine wpList_make_own _ rfl _ _ 22 rfl W.heap.size 40 i0 _ 2 Try.underlying22 hi hz0 hz1 _ _ _ (1) rfl rfl (by simp) (by rw [hz2]; omega) (by unfold maxLen; omega) (by simp) ?_)
        intro w1 hown1 hgr1
        have hB1 : Below W.heap.size W w1 := (Below.refl _ _).grown hgr1 (by simp) (fun j hj => by cases hj)
        clear hgr1
        have hown0 : Hid (w1.ownsRow W.heap.size 40 2 (.slice (some ⟨W.heap.size, 0, none⟩) 0 (1)) 0 (([] : List Cu).flatMap CuV)) := toHid (by simpa using hown1)
        clear hown1
        have hW1 : W.heap.size ≤ w1.heap.size := hB1.size
        have rT : ∀ W ad cap, cap ≤ 9223372036854775807 → RowU 0 0 W (.slice (some ad) 0 cap) [] := fun W ad cap h => RowC.nil h (fun h => by cases h)
        go_wp2_with (at_builtin; refine app_rowU rfl (.tmp 12) (.tmp 15) rfl W.heap.size _ 0 [] rfl hown0.out _ _ _ _ rfl (rT _ _ _ (by omega)) (by simp) hW1 ?_)
        intro v2 w2 hown2 hgr2 hA2
        clear hgr2 rT
        have hB2 := hB1.trans hA2
        clear hA2
        have hown2' : Hid (w2.ownsRow W.heap.size 40 2 v2 (0) (([] : List Cu).flatMap CuV)) := toHid (by simpa using hown2)
        clear hown2
        obtain ⟨b1, b2, b3⟩ := BX.out.belowAt hB2 hWz
        have hW2 : W.heap.size ≤ w2.heap.size := hB2.size
        go_wp2_with (at_builtin; refine app_cus rfl (.tmp 17) (.tmp 19) rfl W.heap.size _ _ _ rfl (hown2'.out.alloc _) ⟨w2.heap.size, 0, none⟩ 1 1 [⟨da, db⟩] rfl rfl (fun j hj => ?_) (by simp) (by simp; omega) ?_; · (rw [add_plain, Nat.zero_add]; refine ((Box.newAt _ _ rfl).2.1 j).trans ?_; simp [CuV]))
        intro v3 w3 hown3 hgr3 hA3
        clear hgr3
        have hB3 := (hB2.alloc hW2 _).trans hA3
        clear hA3
        have hown3' : Hid (w3.ownsRow W.heap.size 40 2 v3 (0 + 1) (([⟨da, db⟩] : List Cu).flatMap CuV)) := toHid (by simpa using hown3)
        clear hown3
        have hW3 : W.heap.size ≤ w3.heap.size := hB3.size
        have rD : ∀ W ad cap, cap ≤ 9223372036854775807 → RowU 0 0 W (.slice (some ad) 0 cap) [] := fun W ad cap h => RowC.nil h (fun h => by cases h)
        go_wp2_with (at_builtin; refine app_rowU rfl (.tmp 21) (.tmp 24) rfl W.heap.size _ _ _ rfl hown3'.out _ _ _ _ rfl (rD _ _ _ (by omega)) (by simp) hW3 ?_)
        intro v4 w4 hown4 hgr4 hA4
        clear hgr4 rD
        have hB4 := hB3.trans hA4
        clear hA4
        have hown4' : Hid (w4.ownsRow W.heap.size 40 2 v4 1 (([⟨da, db⟩] : List Cu).flatMap CuV)) := toHid (by simpa using hown4)
        clear hown4
        go_wp2
        go_ret
        refine ⟨_, rfl, ?_, hWB.out.on hB4⟩
        have R := (RowC.of_owns (by omega) CuV_len hown4'.out).wide (Nat.le_of_lt hWz) (Nat.le_refl _)
        simpa using R
  · have hx0 := hx
    obtain ⟨p, cc, rfl, ⟨hcc, _⟩, hcm, hp⟩ := hx
    unfold maxLen at hcm
    obtain ⟨b, off, rfl, _, _, _⟩ := hp (by intro e; rw [e] at h0; exact absurd h0 (Nat.lt_irrefl _))
    have RT : Hid (∀ W', Below W.heap.size W W' → _) := fun W' hb => (hx0.below hb hh).take CuV_len m hm
    have RD : Hid (∀ W', Below W.heap.size W W' → _) := fun W' hb => (hx0.below hb hh).drop CuV_len m hm
    have hm1 : (m : Int) ≤ (xs.length : Int) := by omega
    have hm2 : (m : Int) ≤ (cc : Int) := by omega
    have htl : (xs.take m).length = m := by rw [List.length_take]; omega
    have hdl : (xs.drop m).length = xs.length - m := List.length_drop
    replace htl := toHid htl
    replace hdl := toHid hdl
    clear hp
    by_cases hcm0 : cc = m
    · have hdr : Hid (xs.drop m = []) := toHid (List.drop_eq_nil_of_le (by omega))
      subst hcm0
      clear RD
      go_enter Try.func26, Try.ntmps26
      go_wp2_with (at_make; rw [hW.out]; refine wpList_make_own _ rfl _ _ 22 rfl W.heap.size 40 i0 _ 2 Try.underlying22 hi hz0 hz1 _ _ _ (xs.length + 1) rfl rfl (by simp) (by rw [hz2]; omega) (by unfold maxLen; omega) (by simp) ?_)
      intro w1 hown1 hgr1
      have hB1 : Below W.heap.size W w1 := (Below.refl _ _).grown hgr1 (by simp) (fun j hj => by cases hj)
      clear hgr1
      have hown0 : Hid (w1.ownsRow W.heap.size 40 2 (.slice (some ⟨W.heap.size, 0, none⟩) 0 (xs.length + 1)) 0 (([] : List Cu).flatMap CuV)) := toHid (by simpa using hown1)
      clear hown1
      have hW1 : W.heap.size ≤ w1.heap.size := hB1.size
      have rT := RT.out w1 hB1
      go_wp2_with (at_builtin; refine app_rowU rfl (.tmp 12) (.tmp 15) rfl W.heap.size _ 0 [] rfl hown0.out _ _ _ _ rfl rT (by have := htl.out; omega) hW1 ?_)
      intro v2 w2 hown2 hgr2 hA2
      clear hgr2 rT
      have hB2 := hB1.trans hA2
      clear hA2
      have hown2' : Hid (w2.ownsRow W.heap.size 40 2 v2 (cc) ((xs.take cc).flatMap CuV)) := toHid (by simpa using hown2)
      clear hown2
      obtain ⟨b1, b2, b3⟩ := BX.out.belowAt hB2 hWz
      have hW2 : W.heap.size ≤ w2.heap.size := hB2.size
      go_wp2_with (at_builtin; refine app_cus rfl (.tmp 17) (.tmp 19) rfl W.heap.size _ _ _ rfl (hown2'.out.alloc _) ⟨w2.heap.size, 0, none⟩ 1 1 [⟨da, db⟩] rfl rfl (fun j hj => ?_) (by omega) (by simp; omega) ?_; · (rw [add_plain, Nat.zero_add]; refine ((Box.newAt _ _ rfl).2.1 j).trans ?_; simp [CuV]))
      intro v3 w3 hown3 hgr3 hA3
      clear hgr3
      have hB3 := (hB2.alloc hW2 _).trans hA3
      clear hA3
      have hown3' : Hid (w3.ownsRow W.heap.size 40 2 v3 (cc + 1) ((xs.take cc ++ ([⟨da, db⟩] : List Cu)).flatMap CuV)) := toHid (by simpa using hown3)
      clear hown3
      have hW3 : W.heap.size ≤ w3.heap.size := hB3.size
      have rD : ∀ W ad cap, cap ≤ 9223372036854775807 → RowU 0 0 W (.slice (some ad) 0 cap) [] := fun W ad cap h => RowC.nil h (fun h => by cases h)
      go_wp2_with (at_builtin; refine app_rowU rfl (.tmp 21) (.tmp 24) rfl W.heap.size _ _ _ rfl hown3'.out _ _ _ _ rfl (rD _ _ _ (by omega)) (by simp; omega) hW3 ?_)
      intro v4 w4 hown4 hgr4 hA4
      clear hgr4 rD
      have hB4 := hB3.trans hA4
      clear hA4
      have hown4' : Hid (w4.ownsRow W.heap.size 40 2 v4 (cc + 1) ((xs.take cc ++ ([⟨da, db⟩] : List Cu)).flatMap CuV)) := toHid (by simpa using hown4)
      clear hown4
      go_wp2
      go_ret
      refine ⟨_, rfl, ?_, hWB.out.on hB4⟩
      have R := (RowC.of_owns (by omega) CuV_len hown4'.out).wide (Nat.le_of_lt hWz) (Nat.le_refl _)
      rw [hdr.out]
      exact R
    · have hcm1 : ¬ (cc : Int) = (m : Int) := by omega
      have hcm2 : ¬ cc - m = 0 := by omega
      go_enter Try.func26, Try.ntmps26
      go_wp2_with (at_make; rw [hW.out]; refine wpList_make_own _ rfl _ _ 22 rfl W.heap.size 40 i0 _ 2 Try.underlying22 hi hz0 hz1 _ _ _ (xs.length + 1) rfl rfl (by simp) (by rw [hz2]; omega) (by unfold maxLen; omega) (by simp) ?_)
      intro w1 hown1 hgr1
      have hB1 : Below W.heap.size W w1 := (Below.refl _ _).grown hgr1 (by simp) (fun j hj => by cases hj)
      clear hgr1
      have hown0 : Hid (w1.ownsRow W.heap.size 40 2 (.slice (some ⟨W.heap.size, 0, none⟩) 0 (xs.length + 1)) 0 (([] : List Cu).flatMap CuV)) := toHid (by simpa using hown1)
      clear hown1
      have hW1 : W.heap.size ≤ w1.heap.size := hB1.size
      have rT := RT.out w1 hB1
      go_wp2_with (at_builtin; refine app_rowU rfl (.tmp 12) (.tmp 15) rfl W.heap.size _ 0 [] rfl hown0.out _ _ _ _ rfl rT (by have := htl.out; omega) hW1 ?_)
      intro v2 w2 hown2 hgr2 hA2
      clear hgr2 rT
      have hB2 := hB1.trans hA2
      clear hA2
      have hown2' : Hid (w2.ownsRow W.heap.size 40 2 v2 (m) ((xs.take m).flatMap CuV)) := toHid (by simpa using hown2)
      clear hown2
      obtain ⟨b1, b2, b3⟩ := BX.out.belowAt hB2 hWz
      have hW2 : W.heap.size ≤ w2.heap.size := hB2.size
      go_wp2_with (at_builtin; refine app_cus rfl (.tmp 17) (.tmp 19) rfl W.heap.size _ _ _ rfl (hown2'.out.alloc _) ⟨w2.heap.size, 0, none⟩ 1 1 [⟨da, db⟩] rfl rfl (fun j hj => ?_) (by omega) (by simp; omega) ?_; · (rw [add_plain, Nat.zero_add]; refine ((Box.newAt _ _ rfl).2.1 j).trans ?_; simp [CuV]))
      intro v3 w3 hown3 hgr3 hA3
      clear hgr3
      have hB3 := (hB2.alloc hW2 _).trans hA3
      clear hA3
      have hown3' : Hid (w3.ownsRow W.heap.size 40 2 v3 (m + 1) ((xs.take m ++ ([⟨da, db⟩] : List Cu)).flatMap CuV)) := toHid (by simpa using hown3)
      clear hown3
      have hW3 : W.heap.size ≤ w3.heap.size := hB3.size
      have rD := RD.out w3 hB3
      go_wp2_with (at_builtin; refine app_rowU rfl (.tmp 21) (.tmp 24) rfl W.heap.size _ _ _ rfl hown3'.out _ _ _ _ rfl rD (by simp only [List.length_drop]; omega) hW3 ?_)
      intro v4 w4 hown4 hgr4 hA4
      clear hgr4 rD
      have hB4 := hB3.trans hA4
      clear hA4
      have hown4' : Hid (w4.ownsRow W.heap.size 40 2 v4 (m + 1 + (xs.length - m)) ((xs.take m ++ (⟨da, db⟩ :: xs.drop m)).flatMap CuV)) := toHid (by simpa using hown4)
      clear hown4
      go_wp2
      go_ret
      refine ⟨_, rfl, ?_, hWB.out.on hB4⟩
      have R := (RowC.of_owns (by omega) CuV_len hown4'.out).wide (Nat.le_of_lt hWz) (Nat.le_refl _)
      simpa using R

/-! ### Without one -/
theorem run_clear_cut (w : World) (ty : TypeId) (g o c : Nat) (a b : Int) (h1 : w.cell? ⟨g, o, none⟩ = some (.int .i64 a)) (h2 : w.cell? ⟨g, o + 1, none⟩ = some (.int .i64 b)) (f1 : w.frozen? ⟨g, o, none⟩ = false) (f2 : w.frozen? ⟨g, o + 1, none⟩ = false) :
    (Builtin.clear_ #[22] ty #[.slice (some ⟨g, o, none⟩) 1 c]).run Try.prog w = .ok (.tuple #[]) ((w.setCell ⟨g, o, none⟩ (.int .i64 0)).setCell ⟨g, o + 1, none⟩ (.int .i64 0)) := by
  have hv : ∀ w, (zeroValue 40).run Try.prog w = .ok (.agg #[.int .i64 0, .int .i64 0]) w := Try.zeroValue40
  have hzc : (Builtin.zeroCells (Value.agg #[.int .i64 0, .int .i64 0]).cells 1).toList = [.int .i64 0, .int .i64 0] := by kernel_rfl
  have hst := run_storeCells_cells (P := Try.prog) g o [.int .i64 0, .int .i64 0] 0 w
    (by intro j hj
        rcases Nat.lt_or_ge j 1 with h | h
        · obtain rfl : j = 0 := by omega
          simp [h1]
        · have hj2 : j < 2 := by simpa using hj
          obtain rfl : j = 1 := by omega
          simp [h2])
    (by intro j hj
        rcases Nat.lt_or_ge j 1 with h | h
        · obtain rfl : j = 0 := by omega
          simpa using f1
        · have hj2 : j < 2 := by simpa using hj
          obtain rfl : j = 1 := by omega
          simpa using f2)
    (by intro v hv'; simp at hv'; subst hv'; rfl)
  simp only [Nat.add_zero] at hst
  have e : w.setCells g o [.int .i64 0, .int .i64 0] = (w.setCell ⟨g, o, none⟩ (.int .i64 0)).setCell ⟨g, o + 1, none⟩ (.int .i64 0) := rfl
  rw [e] at hst
  simp [Builtin.clear_, run_underlying Try.underlying22, hv, hzc, hst]

/-- What stands at place t when all but the one at k have moved one down, up to place j. -/
def midF (x : Nat → Cu) (k j t : Nat) : Cu := if t < k then x t else if t < j then x (t + 1) else x t
/-- The row's cells, while it is being shortened. -/
structure MidAt (w : World) (g n : Nat) (x : Nat → Cu) (k j : Nat) : Prop where
  at_ : ∀ t, t < n → CuAt w g (t * 2) (midF x k j t)
  fr : ∀ o, w.frozen? ⟨g, o, none⟩ = false
  lt : g < w.heap.size
theorem MidAt.below {w w' : World} {g n : Nat} {x : Nat → Cu} {k j : Nat} (h : MidAt w g n x k j) (hb : Below w.heap.size w w') : MidAt w' g n x k j :=
  ⟨fun t ht => (h.at_ t ht).below hb h.lt, fun o => (hb.frozen (p := ⟨g, o, none⟩) h.lt).trans (h.fr o), Nat.lt_of_lt_of_le h.lt hb.size⟩
theorem MidAt.set {w : World} {g n : Nat} {x : Nat → Cu} {k j : Nat} (h : MidAt w g n x k j) (hj : j < n) (hk : k ≤ j) (a b : Int) (hx : x (j + 1) = ⟨a, b⟩) :
    MidAt ((w.setCell ⟨g, j * 2, none⟩ (.int .i64 a)).setCell ⟨g, j * 2 + 1, none⟩ (.int .i64 b)) g n x k (j + 1) := by
  refine ⟨fun t ht => ?_, fun o => (World.frozen?_setCell _ _ _ _).trans ((World.frozen?_setCell _ _ _ _).trans (h.fr o)), by rw [World.size_setCell, World.size_setCell]; exact h.lt⟩
  by_cases e : t = j
  · subst e
    have em : midF x k (t + 1) t = ⟨a, b⟩ := by
      have h1 : ¬ t < k := by omega
      simp [midF, h1, hx]
    rw [em]
    have h0 := h.at_ t ht
    refine ⟨?_, ?_⟩
    · rw [World.cell?_setCell_other _ _ _ _ (by simp)]
      exact World.cell?_setCell_same _ _ _ h0.1
    · exact World.cell?_setCell_same _ _ _ ((World.cell?_setCell_other _ _ _ _ (by simp)).trans h0.2)
  · have em : midF x k (j + 1) t = midF x k j t := by
      unfold midF
      by_cases h1 : t < k
      · simp [h1]
      · by_cases h2 : t < j
        · simp [h1, h2, show t < j + 1 by omega]
        · simp [h1, h2, show ¬ t < j + 1 by omega]
    rw [em]
    have h0 := h.at_ t ht
    refine ⟨?_, ?_⟩
    · rw [World.cell?_setCell_other _ _ _ _ (by simp <;> omega), World.cell?_setCell_other _ _ _ _ (by simp <;> omega)]
      exact h0.1
    · rw [World.cell?_setCell_other _ _ _ _ (by simp <;> omega), World.cell?_setCell_other _ _ _ _ (by simp <;> omega)]
      exact h0.2

set_option maxHeartbeats 2000000 in
theorem uDelete_one (d : Cu) (B base g n cap : Nat) (x : Nat → Cu) (k : Nat) (w : World) (hk : k < n) (hxk : x k = d) (hno : ∀ t, t < n → t ≠ k → ¬ x t = d) (hn : n ≤ 64) (hnc : n ≤ cap) (hcm : cap ≤ 9223372036854775807)
    (hB : B < base) (hg : base ≤ g) (hbw : base ≤ w.heap.size) (hd : CuAt w B 0 d) (hM : MidAt w g n x k k) :
    Calls Try.prog 35 #[.slice (some ⟨g, 0, none⟩) n cap, .func (.func 36) #[] #[.pointer (some ⟨B, 0, none⟩)]] w fun e w' =>
      ∃ m : Nat, n = m + 1 ∧ e = .returned (.slice (some ⟨g, 0, none⟩) m cap) ∧ (∀ t, t < m → CuAt w' g (t * 2) (midF x k m t)) ∧ (∀ o, w'.frozen? ⟨g, o, none⟩ = false) ∧ g < w'.heap.size ∧ Below base w w' := by
  have HI := uIndexIs_core (some ⟨g, 0, none⟩) n cap x k w d B (Nat.lt_of_lt_of_le hB hbw) hd (by omega) (by omega) (fun _ => ⟨g, 0, rfl, hM.lt, fun t ht => by
      have := hM.at_ t ht
      rw [Nat.zero_add]
      have e : midF x k k t = x t := by unfold midF; by_cases h : t < k <;> simp [h]
      rwa [e] at this⟩) (fun t ht => by have := hno t (by omega) (by omega); simpa [isC] using this) (fun _ => by simp [isC, hxk])
  rw [if_pos hk] at HI
  have hk1 : ¬ (k : Int) = -1 := by omega
  have hk2 : ((k : Int) == -1) = false := beq_eq_false_iff_ne.2 hk1
  replace HI := toHid HI
  replace hno := toHid hno
  replace hd := toHid hd
  replace hM := toHid hM
  clear hxk
  go_enter Try.func35, Try.ntmps35
  go_wp2_with (go_at_call 37; refine HI.out.mono ?_; rintro e w1 ⟨rfl, hb1⟩)
  go_loopw [5, 6, 7] (fun s5 s6 s7 wr => ∃ i : Nat, s5 = .int .i64 i ∧ s6 = .int .i64 ((i : Int) + 1) ∧ k ≤ i ∧ i + 1 ≤ n ∧ Hid (MidAt wr g n x k i) ∧ Below base w wr) (fun s5 _ _ _ => n - (intOf s5).toNat)
  case atStart => exact ⟨k, rfl, by go_num, Nat.le_refl _, hk, toHid (hM.out.below hb1), hb1.mono hbw⟩
  case round =>
    obtain ⟨i, rfl, rfl, hki, hin, M, hbel⟩ := hrel
    by_cases hlt : i + 1 < n
    · have r1 := M.out.at_ (i + 1) hlt
      have e1 : midF x k i (i + 1) = x (i + 1) := by
        unfold midF
        rw [if_neg (by omega), if_neg (by omega)]
      rw [e1] at r1
      have hz := hno.out (i + 1) hlt (by omega)
      obtain ⟨⟨za, zb⟩, hxz⟩ : ∃ z, x (i + 1) = z := ⟨_, rfl⟩
      rw [hxz] at r1 hz
      obtain ⟨c1, c2⟩ := r1
      dsimp only at c1 c2
      have hlt' : (i : Int) + 1 < (n : Int) := by omega
      have hi0 : 0 ≤ (i : Int) := by omega
      have hi1 : (i : Int) < (n : Int) := by omega
      have hi2 : 0 ≤ (i : Int) + 1 := by omega
      have hi4 : ((i : Int) + 1).toNat = i + 1 := by omega
      have hgw := M.out.lt
      have hwz : base ≤ wr.heap.size := Nat.le_trans hbw hbel.size
      have HM := toHid (fun o : Obj => uIs_any d za zb B (wr.alloc o) ((hd.out.below hbel hB).below ((Below.refl _ wr).onA o) (by omega)) (by simp; omega))
      rw [decide_eq_false hz] at HM
      have hxz2 := toHid hxz
      clear hxz hz e1
      go_wp2_with (go_at_call 36; refine (HM.out _).mono ?_; rintro e w5 ⟨rfl, hb5⟩
                   have M5 := (M.out.below ((Below.refl _ wr).onA _)).below hb5
                   have bx5 := (Box.new wr #[.int .i64 za, .int .i64 zb] 40).below hb5
                   have hz5 := bx5.1
                   have q1 := bx5.2.1 0
                   have q2 := bx5.2.1 1
                   simp only [List.getElem?_toArray, List.getElem?_cons_zero, List.getElem?_cons_succ] at q1 q2
                   obtain ⟨p1, p2⟩ := M5.at_ i (by omega)
                   have f1 := M5.fr (i * 2)
                   have f2 := M5.fr (i * 2 + 1)
                   have hb6 := toHid (((hbel.alloc hwz _).trans (hb5.mono (Nat.le_trans hwz (by simp)))))
                   have MN := toHid (M5.set (j := i) (by omega) hki za zb hxz2.out)
                   have M5' := toHid M5
                   clear M5 bx5 c1 c2)
      go_roundw
      case rel => exact ⟨i + 1, by go_num, by go_num, by omega, by omega, MN, ((hb6.out.setCell hg _).setCell hg _)⟩
      case measure => simp [intOf]; omega
    · obtain rfl : n = i + 1 := by omega
      have hlt' : ¬ (i : Int) + 1 < ((i + 1 : Nat) : Int) := by omega
      have hi0 : 0 ≤ (i : Int) := by omega
      have hi1 : (i : Int) ≤ ((i + 1 : Nat) : Int) := by omega
      have hi2 : (i : Int) ≤ (cap : Int) := by omega
      have hcm1 : ¬ (cap : Int) = (i : Int) := by omega
      have hcm2 : ¬ cap - i = 0 := by omega
      have hcm3 : ¬ cap = i := by omega
      have c0 := M.out.at_ i (by omega)
      generalize midF x k i i = z at c0
      obtain ⟨za, zb⟩ := z
      obtain ⟨c1, c2⟩ := c0
      dsimp only at c1 c2
      have hcl : ∀ ty c, (Builtin.clear_ #[22] ty #[.slice (some ⟨g, i * 2, none⟩) 1 c]).run Try.prog wr = .ok (.tuple #[]) ((wr.setCell ⟨g, i * 2, none⟩ (.int .i64 0)).setCell ⟨g, i * 2 + 1, none⟩ (.int .i64 0)) :=
        fun ty c => run_clear_cut wr ty g (i * 2) c za zb c1 c2 (M.out.fr _) (M.out.fr _)
      have hend : Hid ((∀ t, t < i → CuAt ((wr.setCell ⟨g, i * 2, none⟩ (.int .i64 0)).setCell ⟨g, i * 2 + 1, none⟩ (.int .i64 0)) g (t * 2) (midF x k i t)) ∧ (∀ o, ((wr.setCell ⟨g, i * 2, none⟩ (.int .i64 0)).setCell ⟨g, i * 2 + 1, none⟩ (.int .i64 0)).frozen? ⟨g, o, none⟩ = false) ∧ g < ((wr.setCell ⟨g, i * 2, none⟩ (.int .i64 0)).setCell ⟨g, i * 2 + 1, none⟩ (.int .i64 0)).heap.size) := toHid (by
        refine ⟨fun t ht => ?_, fun o => (World.frozen?_setCell _ _ _ _).trans ((World.frozen?_setCell _ _ _ _).trans (M.out.fr o)), by rw [World.size_setCell, World.size_setCell]; exact M.out.lt⟩
        have h0 := M.out.at_ t (by omega)
        refine ⟨?_, ?_⟩
        · rw [World.cell?_setCell_other _ _ _ _ (by simp <;> omega), World.cell?_setCell_other _ _ _ _ (by simp <;> omega)]
          exact h0.1
        · rw [World.cell?_setCell_other _ _ _ _ (by simp <;> omega), World.cell?_setCell_other _ _ _ _ (by simp <;> omega)]
          exact h0.2)
      have hbe : Hid (Below base w ((wr.setCell ⟨g, i * 2, none⟩ (.int .i64 0)).setCell ⟨g, i * 2 + 1, none⟩ (.int .i64 0))) := toHid ((hbel.setCell hg _).setCell hg _)
      clear c1 c2 M
      go_wp2
      go_ret
      exact ⟨rfl, hend.out.1, hend.out.2.1, hend.out.2.2, hbe.out⟩

theorem filter_one {cs : List Cu} {d : Cu} {k : Nat} (hk : k < cs.length) (h : cs[k] = d) (hno : ∀ t (ht : t < cs.length), t ≠ k → ¬ cs[t] = d) : cs.filter (neC d) = cs.take k ++ cs.drop (k + 1) := by
  have e : cs = cs.take k ++ (cs[k] :: cs.drop (k + 1)) := by rw [← List.drop_eq_getElem_cons hk, List.take_append_drop]
  conv => lhs; rw [e]
  rw [List.filter_append, List.filter_cons]
  have h1 : neC d cs[k] = false := by simp [neC, h]
  rw [h1, List.filter_eq_self.2, List.filter_eq_self.2]
  · rfl
  · intro y hy
    obtain ⟨j, hj, hjm, rfl⟩ := mem_drop_at hy
    simpa [neC] using hno j hj (by omega)
  · intro y hy
    obtain ⟨j, hj, hjm, rfl⟩ := mem_take_at hy
    simpa [neC] using hno j hj (by omega)

theorem rowU_at {w : World} {g : Nat} {ys : List Cu} (h : ∀ t (ht : t < ys.length), CuAt w g (t * 2) ys[t]) (j : Nat) (hj : j < ys.length * 2) : w.cell? ⟨g, 0 + j, none⟩ = (ys.flatMap CuV)[j]? := by
  obtain ⟨q, r, rfl, hr⟩ : ∃ q r, j = q * 2 + r ∧ r < 2 := ⟨j / 2, j % 2, by omega, by omega⟩
  have hq : q < ys.length := by omega
  rw [flat_at CuV_len ys q r hq hr, Nat.zero_add]
  have h0 := h q hq
  rcases Nat.lt_or_ge r 1 with h1 | h1
  · obtain rfl : r = 0 := by omega
    exact h0.1
  · obtain rfl : r = 1 := by omega
    exact h0.2

theorem uDelete_any (d : Cu) (B : Nat) {base : Nat} {w : World} {v : Value} {cs : List Cu} (hown : w.ownsRow base 40 2 v cs.length (cs.flatMap CuV)) (hl : cs.length ≤ 64) (hu : UpC cs) (hB : B < base) (hbw : base ≤ w.heap.size) (hd : CuAt w B 0 d) :
    Calls Try.prog 35 #[v, .func (.func 36) #[] #[.pointer (some ⟨B, 0, none⟩)]] w fun e w' =>
      ∃ u, e = .returned u ∧ RowU base w'.heap.size w' u (cs.filter (neC d)) ∧ Below base w w' := by
  have huq : ∀ i j (hi : i < cs.length) (hj : j < cs.length), cs[i] = cs[j] → i = j := fun i j hi hj e => by
    rcases Nat.lt_trichotomy i j with h | h | h
    · have := List.pairwise_iff_getElem.1 hu i j hi hj h
      rw [e] at this
      omega
    · exact h
    · have := List.pairwise_iff_getElem.1 hu j i hj hi h
      rw [e] at this
      omega
  have R := RowC.of_owns (by omega) CuV_len hown
  by_cases hin : d ∈ cs
  · obtain ⟨k, hk, hkd⟩ := List.mem_iff_getElem.1 hin
    rcases hown.2 with ⟨_, e0⟩ | ⟨g, cap, cur, rfl, hg, hh1, hle, hcap, _⟩
    · omega
    have hgw : g < w.heap.size := (Array.getElem?_eq_some_iff.1 hh1).1
    have hcf : ∀ j, j < cs.length * 2 → w.cell? ⟨g, 0 + j, none⟩ = (cs.flatMap CuV)[j]? ∧ w.frozen? ⟨g, 0 + j, none⟩ = false := by
      intro j hj
      rw [Nat.zero_add]
      exact ⟨hown.cellAt j hj, hown.frozenAt j⟩
    unfold maxLen at hcap
    have hno : ∀ t (ht : t < cs.length), t ≠ k → ¬ cs[t] = d := fun t ht hne e => hne (huq t k ht hk (e.trans hkd.symm))
    have H := uDelete_one d B base g cs.length cap (fun t => cs.getD t ⟨0, 0⟩) k w hk (by rw [getD_in _ _ hk]; exact hkd) (fun t ht hne => by rw [getD_in _ _ ht]; exact hno t ht hne) hl hle hcap hB hg hbw hd
      ⟨fun t ht => by
        have e : midF (fun t => cs.getD t ⟨0, 0⟩) k k t = cs[t] := by
          unfold midF
          by_cases h : t < k <;> simp only [h, if_true, if_false, getD_in cs _ ht]
        rw [e]
        have := cusAt hcf t ht
        rwa [Nat.zero_add] at this, fun o => hown.frozenAt o, hgw⟩
    refine H.mono fun e w' ⟨m, hm, he, h1, h2, h3, h4⟩ => ⟨_, he, ?_, h4⟩
    have hf := filter_one hk hkd hno
    have hlen : (cs.filter (neC d)).length = m := by rw [hf, List.length_append, List.length_take, List.length_drop]; omega
    refine ⟨_, cap, by rw [hlen], ⟨by omega, fun h => by cases h⟩, by unfold maxLen; omega, fun _ => ⟨g, 0, rfl, hg, h3, fun j hj => ⟨?_, h2 _⟩⟩⟩
    refine rowU_at (fun t ht => ?_) j hj
    have ht2 : t < m := by omega
    have h5 := h1 t ht2
    have e5 : midF (fun t => cs.getD t ⟨0, 0⟩) k m t = (cs.filter (neC d))[t] := by
      have e6 : (cs.filter (neC d))[t]? = some (midF (fun t => cs.getD t ⟨0, 0⟩) k m t) := by
        rw [hf]
        unfold midF
        by_cases h : t < k
        · rw [List.getElem?_append_left (by rw [List.length_take]; omega), List.getElem?_take_of_lt h, if_pos h]
          show _ = some (cs.getD t ⟨0, 0⟩)
          rw [getD_in _ _ (by omega), List.getElem?_eq_getElem]
        · rw [List.getElem?_append_right (by rw [List.length_take]; omega), List.getElem?_drop, if_neg h, if_pos ht2]
          show _ = some (cs.getD (t + 1) ⟨0, 0⟩)
          rw [getD_in _ _ (by omega), List.length_take, show k + 1 + (t - min k cs.length) = t + 1 by omega, List.getElem?_eq_getElem]
      rw [List.getElem?_eq_getElem ht] at e6
      exact (Option.some.inj e6).symm
    rwa [e5] at h5
  · have hf : cs.filter (neC d) = cs := List.filter_eq_self.2 fun y hy => by simp [neC]; intro e; exact hin (e ▸ hy)
    rw [hf]
    obtain ⟨p, c, rfl, hn, hp⟩ := R.cus (Nat.le_refl _)
    have HI := uIndexIs_core p cs.length c (fun t => cs.getD t ⟨0, 0⟩) cs.length w d B (Nat.lt_of_lt_of_le hB hbw) hd hn (Nat.le_refl _) (fun h0 => by obtain ⟨b, off, e, _, h3, h4⟩ := hp h0; exact ⟨b, off, e, h3, h4⟩)
      (fun t ht => by rw [getD_in _ _ ht]; simp [isC]; intro e; exact hin (e ▸ List.getElem_mem ht)) (fun h => absurd h (Nat.lt_irrefl _))
    rw [if_neg (Nat.lt_irrefl _)] at HI
    replace HI := toHid HI
    replace R := toHid R
    clear hf hp hown hd huq
    go_enter Try.func35, Try.ntmps35
    go_wp2_with (go_at_call 37; refine HI.out.mono ?_; rintro e w1 ⟨rfl, hb1⟩)
    go_ret
    exact ⟨_, rfl, (R.out.below hb1 (Nat.le_refl _)).wide (Nat.le_refl _) hb1.size, hb1.mono hbw⟩

set_option maxHeartbeats 400000 in
theorem uTake_any {lo hi : Nat} {w : World} {v : Value} {cs : List Cu} (hx : RowU lo hi w v cs) (hl : cs.length ≤ 64) (hu : UpC cs) (da db : Int) :
    Calls Try.prog 27 #[v, .agg #[.int .i64 da, .int .i64 db]] w fun e w' =>
      ∃ u, e = .returned u ∧ RowU w.heap.size w'.heap.size w' u (cs.filter (neC ⟨da, db⟩)) ∧ Below w.heap.size w w' := by
  have HC := toHid (fun o : Obj => uCopied_any (hx.alloc o CuV_len) (by omega))
  have BX := Box.new w #[.int .i64 da, .int .i64 db] 40
  have HD := fun (w1 : World) (u : Value) (hb : Below (w.alloc (.cells #[.int .i64 da, .int .i64 db] 40)).heap.size (w.alloc (.cells #[.int .i64 da, .int .i64 db] 40)) w1) (hown : w1.ownsRow (w.alloc (.cells #[.int .i64 da, .int .i64 db] 40)).heap.size 40 2 u cs.length (cs.flatMap CuV)) =>
    uDelete_any ⟨da, db⟩ w.heap.size hown hl hu BX.1 hb.size ⟨((BX.below hb).2.1 0).trans rfl, ((BX.below hb).2.1 1).trans rfl⟩
  replace HD := toHid HD
  obtain ⟨p, c, rfl, -⟩ := hx
  clear BX hu
  go_enter Try.func27, Try.ntmps27
  go_wp2_with (first
    | (go_at_call 25; refine (HC.out _).mono ?_; rintro e w1 ⟨u, rfl, hown, hb1⟩
       replace hown := toHid hown)
    | (go_at_call 35; refine (HD.out w1 u hb1 hown.out).mono ?_; rintro e w2 ⟨u2, rfl, hR, hb2⟩))
  go_ret
  exact ⟨_, rfl, hR.wide (by simp) (Nat.le_refl _), ((Below.refl _ w).onA _).trans (hb1.trans hb2 |>.mono (by simp))⟩

end Go.Proofs.Ytnbnnbcjlfdlpaa
