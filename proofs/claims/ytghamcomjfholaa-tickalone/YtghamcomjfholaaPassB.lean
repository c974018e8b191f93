
/-
  Contracts of package passive's functions that make lists (a copy; with a new one; without some), and of With and Without, at every list of ints: what they return, in new memory, and that no old memory has turned.
-/
import Derived.Test.YtghamcomjfholaaPassA
import Derived.Test.YtghamcomjfholaaRows
import Derived.Shelf.SlicesE.IndexFunc
import Derived.Ground.SlgfProg
import Derived.Lib.OwnBridge
import Derived.WalkSpells
import Derived.OneCell
namespace Go.Proofs.Ytghamcomjfholaa
open Go.ChangeShapes Go.WideShapes Go.ChangeAt Go.RowKit Go.Shelf Go.Lib Go.Sort

set_option maxHeartbeats 400000 in
theorem qClone_any {lo hi : Nat} {w : World} {v : Value} {xs : List Int} (hx : RowI lo hi w v xs) (h47 : xs.length * 8 ≤ 140737488355328) :
    Calls Try.prog 62 #[v] w fun e w' => ∃ u, e = .returned u ∧ w'.ownsRow w.heap.size 3 1 u xs.length (xs.map (Value.int .i64)) ∧ Below w.heap.size w w' := by
  have hx' := hx.alloc (.cells #[] 3)
  obtain ⟨p, c, rfl, ⟨hl, hpn⟩, hc, hpx⟩ := hx
  have q22 : ∀ (w : World) (a : Option Addr) (n c n' c' : Nat), (binOp .eql 24 (.slice a n c) (.slice none n' c')).run Try.prog w = .ok (.bool a.isNone) w := fun w a n c n' c' => Lib.run_eql_slice_nil w _ _ a n c n' c' Try.underlying24
  cases p with
  | none =>
    have hn : xs = [] := by
      by_cases e : xs = []
      · exact e
      · obtain ⟨b, off, h0, _⟩ := hpx e
        cases h0
    subst hn
    clear hx' hpx
    go_enter Try.func62, Try.ntmps62
    go_wp2
    go_ret
    exact ⟨_, rfl, ⟨rfl, .inl ⟨rfl, rfl⟩⟩, Below.refl _ _⟩
  | some ad =>
    clear hpx
    go_enter Try.func62, Try.ntmps62
    go_wp2_with (at_builtin; refine app_row rfl (.tmp 5) (.tmp 6) rfl w.heap.size _ 0 [] rfl (World.ownsRow_lit w #[] 0 (Nat.le_refl _) (Nat.zero_le _) rfl) lo hi _ xs rfl hx' (by omega) (by simp) ?_; intro v' w' hown hgr hbel)
    go_ret
    exact ⟨_, rfl, by simpa using hown, ((Below.refl _ w).alloc (Nat.le_refl _) _).trans hbel⟩

set_option maxHeartbeats 400000 in
theorem qNew_any {lo hi : Nat} {w : World} {v : Value} {xs : List Int} (hx : RowI lo hi w v xs) (hh : hi ≤ w.heap.size) (hl : xs.length ≤ 16) (m : Nat) (hm : m ≤ xs.length) (d : Int) :
    Calls Try.prog 78 #[v, .int .i64 m, .int .i64 d] w fun e w' => ∃ o, e = .returned o ∧ RowI w.heap.size w'.heap.size w' o (xs.take m ++ (d :: xs.drop m)) ∧ Below w.heap.size w w' := by
  obtain ⟨i0, hi, hz0, hz1, hz2⟩ := info_parts Try.info3
  rcases Nat.eq_zero_or_pos xs.length with h0 | h0
  · obtain rfl : xs = [] := List.length_eq_zero_iff.1 h0
    obtain rfl : m = 0 := by simpa using hm
    obtain ⟨p, cc, rfl, ⟨hcc, hpn⟩, hcm, -⟩ := hx
    unfold maxLen at hcm
    cases p with
    | none =>
      obtain rfl := hpn rfl
      go_enter Try.func78, Try.ntmps78
      go_wp2_with (at_make; refine wpList_make_own _ rfl _ _ 24 rfl w.heap.size 3 i0 (.int .i64 0) 1 Try.underlying24 hi hz0 hz1 _ _ _ (1) rfl rfl (by simp) (by rw [hz2]; omega) (by unfold maxLen; omega) (by simp) ?_)
      intro w1 hown1 hgr1
      have hB1 : Below w.heap.size w w1 := (Below.refl _ _).grown hgr1 (by simp) (fun j hj => by cases hj)
      clear hgr1
      have hown0 : Hid (w1.ownsRow w.heap.size 3 1 (.slice (some ⟨w.heap.size, 0, none⟩) 0 (1)) 0 (([] : List Int).map (Value.int .i64))) := toHid (by simpa using hown1)
      clear hown1
      have hW1 : w.heap.size ≤ w1.heap.size := hB1.size
      have rT : RowI 0 0 w1 (.slice none 0 0) [] := RowI.nil0
      go_wp2_with (at_builtin; refine app_row rfl (.tmp 12) (.tmp 15) rfl w.heap.size _ 0 [] rfl hown0.out _ _ _ _ rfl rT (by simp) hW1 ?_)
      intro v2 w2 hown2 hgr2 hA2
      clear hgr2 rT
      have hB2 := hB1.trans hA2
      clear hA2
      have hown2' : Hid (w2.ownsRow w.heap.size 3 1 v2 (0) (([] : List Int).map (Value.int .i64))) := toHid (by simpa using hown2)
      clear hown2
      have hW2 : w.heap.size ≤ w2.heap.size := hB2.size
      go_wp2_with (at_builtin; refine app_ints rfl (.tmp 17) (.tmp 19) rfl w.heap.size _ _ _ rfl (hown2'.out.alloc _) ⟨w2.heap.size, 0, none⟩ 1 1 [d] rfl rfl (fun j hj => ?_) (by simp) (by simp; omega) ?_; · (match j, hj with | 0, _ => simp [Addr.add]))
      intro v3 w3 hown3 hgr3 hA3
      clear hgr3
      have hB3 := (hB2.alloc hW2 _).trans hA3
      clear hA3
      have hown3' : Hid (w3.ownsRow w.heap.size 3 1 v3 (0 + 1) (([d] : List Int).map (Value.int .i64))) := toHid (by simpa using hown3)
      clear hown3
      have hW3 : w.heap.size ≤ w3.heap.size := hB3.size
      have rD : RowI 0 0 w3 (.slice none 0 0) [] := RowI.nil0
      go_wp2_with (at_builtin; refine app_row rfl (.tmp 21) (.tmp 24) rfl w.heap.size _ _ _ rfl hown3'.out _ _ _ _ rfl rD (by simp) hW3 ?_)
      intro v4 w4 hown4 hgr4 hA4
      clear hgr4 rD
      have hB4 := hB3.trans hA4
      clear hA4
      have hown4' : Hid (w4.ownsRow w.heap.size 3 1 v4 1 (([d] : List Int).map (Value.int .i64))) := toHid (by simpa using hown4)
      clear hown4
      go_wp2
      go_ret
      refine ⟨_, rfl, ?_, hB4⟩
      have R := RowI.of_owns hown4'.out
      simpa using R
    | some ad =>
      rcases Nat.eq_zero_or_pos cc with hc0 | hc0
      · subst hc0
        go_enter Try.func78, Try.ntmps78
        go_wp2_with (at_make; refine wpList_make_own _ rfl _ _ 24 rfl w.heap.size 3 i0 (.int .i64 0) 1 Try.underlying24 hi hz0 hz1 _ _ _ (1) rfl rfl (by simp) (by rw [hz2]; omega) (by unfold maxLen; omega) (by simp) ?_)
        intro w1 hown1 hgr1
        have hB1 : Below w.heap.size w w1 := (Below.refl _ _).grown hgr1 (by simp) (fun j hj => by cases hj)
        clear hgr1
        have hown0 : Hid (w1.ownsRow w.heap.size 3 1 (.slice (some ⟨w.heap.size, 0, none⟩) 0 (1)) 0 (([] : List Int).map (Value.int .i64))) := toHid (by simpa using hown1)
        clear hown1
        have hW1 : w.heap.size ≤ w1.heap.size := hB1.size
        have rT : ∀ w ad cap, cap ≤ 9223372036854775807 → RowI 0 0 w (.slice (some ad) 0 cap) [] := fun w ad cap h => RowI.nil h (fun h => by cases h)
        go_wp2_with (at_builtin; refine app_row rfl (.tmp 12) (.tmp 15) rfl w.heap.size _ 0 [] rfl hown0.out _ _ _ _ rfl (rT _ _ _ (by omega)) (by simp) hW1 ?_)
        intro v2 w2 hown2 hgr2 hA2
        clear hgr2 rT
        have hB2 := hB1.trans hA2
        clear hA2
        have hown2' : Hid (w2.ownsRow w.heap.size 3 1 v2 (0) (([] : List Int).map (Value.int .i64))) := toHid (by simpa using hown2)
        clear hown2
        have hW2 : w.heap.size ≤ w2.heap.size := hB2.size
        go_wp2_with (at_builtin; refine app_ints rfl (.tmp 17) (.tmp 19) rfl w.heap.size _ _ _ rfl (hown2'.out.alloc _) ⟨w2.heap.size, 0, none⟩ 1 1 [d] rfl rfl (fun j hj => ?_) (by simp) (by simp; omega) ?_; · (match j, hj with | 0, _ => simp [Addr.add]))
        intro v3 w3 hown3 hgr3 hA3
        clear hgr3
        have hB3 := (hB2.alloc hW2 _).trans hA3
        clear hA3
        have hown3' : Hid (w3.ownsRow w.heap.size 3 1 v3 (0 + 1) (([d] : List Int).map (Value.int .i64))) := toHid (by simpa using hown3)
        clear hown3
        have hW3 : w.heap.size ≤ w3.heap.size := hB3.size
        have rD : ∀ w ad cap, cap ≤ 9223372036854775807 → RowI 0 0 w (.slice (some ad) 0 cap) [] := fun w ad cap h => RowI.nil h (fun h => by cases h)
        go_wp2_with (at_builtin; refine app_row rfl (.tmp 21) (.tmp 24) rfl w.heap.size _ _ _ rfl hown3'.out _ _ _ _ rfl (rD _ _ _ (by omega)) (by simp) hW3 ?_)
        intro v4 w4 hown4 hgr4 hA4
        clear hgr4 rD
        have hB4 := hB3.trans hA4
        clear hA4
        have hown4' : Hid (w4.ownsRow w.heap.size 3 1 v4 1 (([d] : List Int).map (Value.int .i64))) := toHid (by simpa using hown4)
        clear hown4
        go_wp2
        go_ret
        refine ⟨_, rfl, ?_, hB4⟩
        have R := RowI.of_owns hown4'.out
        simpa using R
      · have hc1 : ¬ cc = 0 := by omega
        go_enter Try.func78, Try.ntmps78
        go_wp2_with (at_make; refine wpList_make_own _ rfl _ _ 24 rfl w.heap.size 3 i0 (.int .i64 0) 1 Try.underlying24 hi hz0 hz1 _ _ _ (1) rfl rfl (by simp) (by rw [hz2]; omega) (by unfold maxLen; omega) (by simp) ?_)
        intro w1 hown1 hgr1
        have hB1 : Below w.heap.size w w1 := (Below.refl _ _).grown hgr1 (by simp) (fun j hj => by cases hj)
        clear hgr1
        have hown0 : Hid (w1.ownsRow w.heap.size 3 1 (.slice (some ⟨w.heap.size, 0, none⟩) 0 (1)) 0 (([] : List Int).map (Value.int .i64))) := toHid (by simpa using hown1)
        clear hown1
        have hW1 : w.heap.size ≤ w1.heap.size := hB1.size
        have rT : ∀ w ad cap, cap ≤ 9223372036854775807 → RowI 0 0 w (.slice (some ad) 0 cap) [] := fun w ad cap h => RowI.nil h (fun h => by cases h)
        go_wp2_with (at_builtin; refine app_row rfl (.tmp 12) (.tmp 15) rfl w.heap.size _ 0 [] rfl hown0.out _ _ _ _ rfl (rT _ _ _ (by omega)) (by simp) hW1 ?_)
        intro v2 w2 hown2 hgr2 hA2
        clear hgr2 rT
        have hB2 := hB1.trans hA2
        clear hA2
        have hown2' : Hid (w2.ownsRow w.heap.size 3 1 v2 (0) (([] : List Int).map (Value.int .i64))) := toHid (by simpa using hown2)
        clear hown2
        have hW2 : w.heap.size ≤ w2.heap.size := hB2.size
        go_wp2_with (at_builtin; refine app_ints rfl (.tmp 17) (.tmp 19) rfl w.heap.size _ _ _ rfl (hown2'.out.alloc _) ⟨w2.heap.size, 0, none⟩ 1 1 [d] rfl rfl (fun j hj => ?_) (by simp) (by simp; omega) ?_; · (match j, hj with | 0, _ => simp [Addr.add]))
        intro v3 w3 hown3 hgr3 hA3
        clear hgr3
        have hB3 := (hB2.alloc hW2 _).trans hA3
        clear hA3
        have hown3' : Hid (w3.ownsRow w.heap.size 3 1 v3 (0 + 1) (([d] : List Int).map (Value.int .i64))) := toHid (by simpa using hown3)
        clear hown3
        have hW3 : w.heap.size ≤ w3.heap.size := hB3.size
        have rD : ∀ w ad cap, cap ≤ 9223372036854775807 → RowI 0 0 w (.slice (some ad) 0 cap) [] := fun w ad cap h => RowI.nil h (fun h => by cases h)
        go_wp2_with (at_builtin; refine app_row rfl (.tmp 21) (.tmp 24) rfl w.heap.size _ _ _ rfl hown3'.out _ _ _ _ rfl (rD _ _ _ (by omega)) (by simp) hW3 ?_)
        intro v4 w4 hown4 hgr4 hA4
        clear hgr4 rD
        have hB4 := hB3.trans hA4
        clear hA4
        have hown4' : Hid (w4.ownsRow w.heap.size 3 1 v4 1 (([d] : List Int).map (Value.int .i64))) := toHid (by simpa using hown4)
        clear hown4
        go_wp2
        go_ret
        refine ⟨_, rfl, ?_, hB4⟩
        have R := RowI.of_owns hown4'.out
        simpa using R
  · have hx0 := hx
    obtain ⟨p, cc, rfl, ⟨hcc, _⟩, hcm, hp⟩ := hx
    unfold maxLen at hcm
    obtain ⟨b, off, rfl, _, _, _⟩ := hp (by intro e; rw [e] at h0; exact absurd h0 (Nat.lt_irrefl _))
    have RT : Hid (∀ w', Below w.heap.size w w' → _) := fun w' hb => (hx0.below hb hh).take m hm
    have RD : Hid (∀ w', Below w.heap.size w w' → _) := fun w' hb => (hx0.below hb hh).drop m hm
    have hm1 : (m : Int) ≤ (xs.length : Int) := by omega
    have hm2 : (m : Int) ≤ (cc : Int) := by omega
    have htl : (xs.take m).length = m := by rw [List.length_take]; omega
    have hdl : (xs.drop m).length = xs.length - m := List.length_drop
    replace htl := toHid htl
    replace hdl := toHid hdl
    clear hp
    by_cases hcm0 : cc = m
    · have hdr : Hid (xs.drop m = []) := toHid (List.drop_eq_nil_of_le (by omega))
      subst hcm0
      clear RD
      go_enter Try.func78, Try.ntmps78
      go_wp2_with (at_make; refine wpList_make_own _ rfl _ _ 24 rfl w.heap.size 3 i0 (.int .i64 0) 1 Try.underlying24 hi hz0 hz1 _ _ _ (xs.length + 1) rfl rfl (by simp) (by rw [hz2]; omega) (by unfold maxLen; omega) (by simp) ?_)
      intro w1 hown1 hgr1
      have hB1 : Below w.heap.size w w1 := (Below.refl _ _).grown hgr1 (by simp) (fun j hj => by cases hj)
      clear hgr1
      have hown0 : Hid (w1.ownsRow w.heap.size 3 1 (.slice (some ⟨w.heap.size, 0, none⟩) 0 (xs.length + 1)) 0 (([] : List Int).map (Value.int .i64))) := toHid (by simpa using hown1)
      clear hown1
      have hW1 : w.heap.size ≤ w1.heap.size := hB1.size
      have rT := RT.out w1 hB1
      go_wp2_with (at_builtin; refine app_row rfl (.tmp 12) (.tmp 15) rfl w.heap.size _ 0 [] rfl hown0.out _ _ _ _ rfl rT (by have := htl.out; omega) hW1 ?_)
      intro v2 w2 hown2 hgr2 hA2
      clear hgr2 rT
      have hB2 := hB1.trans hA2
      clear hA2
      have hown2' : Hid (w2.ownsRow w.heap.size 3 1 v2 (cc) ((xs.take cc).map (Value.int .i64))) := toHid (by simpa using hown2)
      clear hown2
      have hW2 : w.heap.size ≤ w2.heap.size := hB2.size
      go_wp2_with (at_builtin; refine app_ints rfl (.tmp 17) (.tmp 19) rfl w.heap.size _ _ _ rfl (hown2'.out.alloc _) ⟨w2.heap.size, 0, none⟩ 1 1 [d] rfl rfl (fun j hj => ?_) (by omega) (by simp; omega) ?_; · (match j, hj with | 0, _ => simp [Addr.add]))
      intro v3 w3 hown3 hgr3 hA3
      clear hgr3
      have hB3 := (hB2.alloc hW2 _).trans hA3
      clear hA3
      have hown3' : Hid (w3.ownsRow w.heap.size 3 1 v3 (cc + 1) ((xs.take cc ++ ([d] : List Int)).map (Value.int .i64))) := toHid (by simpa using hown3)
      clear hown3
      have hW3 : w.heap.size ≤ w3.heap.size := hB3.size
      have rD : ∀ w ad cap, cap ≤ 9223372036854775807 → RowI 0 0 w (.slice (some ad) 0 cap) [] := fun w ad cap h => RowI.nil h (fun h => by cases h)
      go_wp2_with (at_builtin; refine app_row rfl (.tmp 21) (.tmp 24) rfl w.heap.size _ _ _ rfl hown3'.out _ _ _ _ rfl (rD _ _ _ (by omega)) (by simp; omega) hW3 ?_)
      intro v4 w4 hown4 hgr4 hA4
      clear hgr4 rD
      have hB4 := hB3.trans hA4
      clear hA4
      have hown4' : Hid (w4.ownsRow w.heap.size 3 1 v4 (cc + 1) ((xs.take cc ++ ([d] : List Int)).map (Value.int .i64))) := toHid (by simpa using hown4)
      clear hown4
      go_wp2
      go_ret
      refine ⟨_, rfl, ?_, hB4⟩
      have R := RowI.of_owns hown4'.out
      rw [hdr.out]
      exact R
    · have hcm1 : ¬ (cc : Int) = (m : Int) := by omega
      have hcm2 : ¬ cc - m = 0 := by omega
      go_enter Try.func78, Try.ntmps78
      go_wp2_with (at_make; refine wpList_make_own _ rfl _ _ 24 rfl w.heap.size 3 i0 (.int .i64 0) 1 Try.underlying24 hi hz0 hz1 _ _ _ (xs.length + 1) rfl rfl (by simp) (by rw [hz2]; omega) (by unfold maxLen; omega) (by simp) ?_)
      intro w1 hown1 hgr1
      have hB1 : Below w.heap.size w w1 := (Below.refl _ _).grown hgr1 (by simp) (fun j hj => by cases hj)
      clear hgr1
      have hown0 : Hid (w1.ownsRow w.heap.size 3 1 (.slice (some ⟨w.heap.size, 0, none⟩) 0 (xs.length + 1)) 0 (([] : List Int).map (Value.int .i64))) := toHid (by simpa using hown1)
      clear hown1
      have hW1 : w.heap.size ≤ w1.heap.size := hB1.size
      have rT := RT.out w1 hB1
      go_wp2_with (at_builtin; refine app_row rfl (.tmp 12) (.tmp 15) rfl w.heap.size _ 0 [] rfl hown0.out _ _ _ _ rfl rT (by have := htl.out; omega) hW1 ?_)
      intro v2 w2 hown2 hgr2 hA2
      clear hgr2 rT
      have hB2 := hB1.trans hA2
      clear hA2
      have hown2' : Hid (w2.ownsRow w.heap.size 3 1 v2 (m) ((xs.take m).map (Value.int .i64))) := toHid (by simpa using hown2)
      clear hown2
      have hW2 : w.heap.size ≤ w2.heap.size := hB2.size
      go_wp2_with (at_builtin; refine app_ints rfl (.tmp 17) (.tmp 19) rfl w.heap.size _ _ _ rfl (hown2'.out.alloc _) ⟨w2.heap.size, 0, none⟩ 1 1 [d] rfl rfl (fun j hj => ?_) (by omega) (by simp; omega) ?_; · (match j, hj with | 0, _ => simp [Addr.add]))
      intro v3 w3 hown3 hgr3 hA3
      clear hgr3
      have hB3 := (hB2.alloc hW2 _).trans hA3
      clear hA3
      have hown3' : Hid (w3.ownsRow w.heap.size 3 1 v3 (m + 1) ((xs.take m ++ ([d] : List Int)).map (Value.int .i64))) := toHid (by simpa using hown3)
      clear hown3
      have hW3 : w.heap.size ≤ w3.heap.size := hB3.size
      have rD := RD.out w3 hB3
      go_wp2_with (at_builtin; refine app_row rfl (.tmp 21) (.tmp 24) rfl w.heap.size _ _ _ rfl hown3'.out _ _ _ _ rfl rD (by simp only [List.length_drop]; omega) hW3 ?_)
      intro v4 w4 hown4 hgr4 hA4
      clear hgr4 rD
      have hB4 := hB3.trans hA4
      clear hA4
      have hown4' : Hid (w4.ownsRow w.heap.size 3 1 v4 (m + 1 + (xs.length - m)) ((xs.take m ++ (d :: xs.drop m)).map (Value.int .i64))) := toHid (by simpa using hown4)
      clear hown4
      go_wp2
      go_ret
      refine ⟨_, rfl, ?_, hB4⟩
      have R := RowI.of_owns hown4'.out
      simpa using R

/-! ### Without one -/
/-! ### The faces -/
set_option maxHeartbeats 400000 in
theorem qWith_any {lo hi : Nat} {w : World} {v : Value} {xs : List Int} (hx : RowI lo hi w v xs) (hh : hi ≤ w.heap.size) (d : Int) :
    Calls Try.prog 63 #[v, .int .i64 d] w fun e w' => ∃ u, e = .returned (.tuple #[u, .int .i64 (wiE xs d)]) ∧ RowI w.heap.size w'.heap.size w' u (wiL xs d) ∧ Below w.heap.size w w' := by
  have H1 := qMay_any hx
  rcases Bool.eq_false_or_eq_true (paB xs) with h | h
  · rcases Bool.eq_false_or_eq_true (plB d) with hd | hd
    · obtain ⟨h1, h2, h3⟩ := paB_iff.1 h
      have HF := fun q => qFind_any (hx.drewN q) h1 h3 d
      by_cases hin : d ∈ xs
      · have hs := wi_same h3 hin
        obtain ⟨e1, e2⟩ := wi_ok h hd (by rw [hs]; exact h1)
        rw [e1, e2, hs]
        have HC := fun q => qClone_any (hx.drewN q) (by omega)
        rw [decide_eq_true hin] at HF
        rw [h] at H1
        clear e1 e2 h h2 h3 hx hs hin
        go_enter Try.func63, Try.ntmps63
        go_wp2_with (first
          | (go_at_call 50; refine H1.mono ?_; rintro e w1 ⟨rfl, q, hw1⟩; subst w1)
          | (go_at_call 70; refine (qNo_any _ _).mono ?_; rintro e w' ⟨rfl, hw'⟩; subst w')
          | (go_at_call 77; refine (HF _).mono ?_; rintro e w' ⟨rfl, -, hw'⟩; subst w')
          | (go_at_call 62; refine (HC _).mono ?_; rintro e w2 ⟨u, rfl, hown, hb2⟩))
        go_ret2
        exact ⟨_, rfl, RowI.of_owns hown, ((Below.refl _ w).onD q).on hb2⟩
      · have hlong := wi_long h3 hin
        rw [decide_eq_false hin] at HF
        rw [h] at H1
        by_cases hf : xs.length = 16
        · obtain ⟨e1, e2⟩ := wi_full h hd (by omega)
          rw [e1, e2]
          obtain ⟨p, c, rfl, _, hc, _⟩ := hx
          rw [hf] at HF H1 ⊢
          clear e1 e2 h h2 h3 hin hlong hf
          go_enter Try.func63, Try.ntmps63
          go_wp2_with (first
            | (go_at_call 50; refine H1.mono ?_; rintro e w1 ⟨rfl, q, hw1⟩; subst w1)
            | (go_at_call 70; refine (qNo_any _ _).mono ?_; rintro e w' ⟨rfl, hw'⟩; subst w')
            | (go_at_call 77; refine (HF _).mono ?_; rintro e w' ⟨rfl, -, hw'⟩; subst w'))
          go_ret2
          exact ⟨_, rfl, RowI.nil0, (Below.refl _ w).onD q⟩
        · obtain ⟨e1, e2⟩ := wi_ok h hd (by omega)
          rw [e1, e2]
          have HP : Hid (∀ q m, PosI xs d m → Calls Try.prog 78 #[v, .int .i64 m, .int .i64 d] (w.drewN q) fun e w' => ∃ o, e = .returned o ∧ RowI w.heap.size w'.heap.size w' o (wiI xs d) ∧ Below w.heap.size w w') := toHid fun q m hm => by
            rw [hm.new hin]
            exact (qNew_any (hx.drewN q) hh h1 m hm.le d).mono fun e w' ⟨o, he, hR, hb⟩ => ⟨o, he, hR, ((Below.refl _ w).onD q).on hb⟩
          obtain ⟨p, c, rfl, _, hc, _⟩ := hx
          have hf1 : ¬ (xs.length : Int) = 16 := by omega
          have hf2 : ((xs.length : Int) == 16) = false := by simpa using hf1
          generalize wiI xs d = ys at *
          clear e1 e2 h h2 h3 hin hlong
          go_enter Try.func63, Try.ntmps63
          go_wp2_with (first
            | (go_at_call 50; refine H1.mono ?_; rintro e w1 ⟨rfl, q, hw1⟩; subst w1)
            | (go_at_call 70; refine (qNo_any _ _).mono ?_; rintro e w' ⟨rfl, hw'⟩; subst w')
            | (go_at_call 77; refine (HF _).mono ?_; rintro e w' ⟨rfl, hP, hw'⟩; subst w')
            | (go_at_call 78; refine (HP.out _ _ hP).mono ?_; rintro e w2 ⟨u, rfl, hR, hb2⟩))
          go_ret2
          exact ⟨_, rfl, hR, hb2⟩
    · obtain ⟨e1, e2⟩ := wi_form (xs := xs) (.inr hd)
      rw [e1, e2]
      rw [h] at H1
      clear e1 e2 h hx
      go_enter Try.func63, Try.ntmps63
      go_wp2_with (first
        | (go_at_call 50; refine H1.mono ?_; rintro e w1 ⟨rfl, q, hw1⟩; subst w1)
        | (go_at_call 70; refine (qNo_any _ _).mono ?_; rintro e w' ⟨rfl, hw'⟩; subst w'))
      go_ret2
      exact ⟨_, rfl, RowI.nil0, (Below.refl _ w).onD q⟩
  · obtain ⟨e1, e2⟩ := wi_form (d := d) (.inl h)
    rw [e1, e2]
    rw [h] at H1
    clear e1 e2 h hx
    go_enter Try.func63, Try.ntmps63
    go_wp2_with (first
      | (go_at_call 50; refine H1.mono ?_; rintro e w1 ⟨rfl, q, hw1⟩; subst w1))
    go_ret2
    exact ⟨_, rfl, RowI.nil0, (Below.refl _ w).onD q⟩
end Go.Proofs.Ytghamcomjfholaa
