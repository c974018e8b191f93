
/-
  Contracts of package passive's functions that make lists (a copy; with a new one; without some), and of With and Without, at every list of ints: what they return, in new memory, and that no old memory has turned.
-/
import Derived.Test.YtgopjjclobgekaaPassA
import Derived.Test.YtgopjjclobgekaaPassLays
import Derived.Lib.OwnBridge
import Derived.WalkSpells
import Derived.OneCell
namespace Go.Proofs.Ytgopjjclobgekaa
open Go.ChangeShapes Go.WideShapes Go.ChangeAt Go.RowKit Go.Shelf Go.Lib Go.Sort

set_option maxHeartbeats 400000 in
theorem qClone_any {lo hi : Nat} {w : World} {v : Value} {xs : List Int} (hx : RowI lo hi w v xs) (h47 : xs.length * 8 ≤ 140737488355328) :
    Calls Try.prog 76 #[v] w fun e w' => ∃ u, e = .returned u ∧ w'.ownsRow w.heap.size 3 1 u xs.length (xs.map (Value.int .i64)) ∧ Below w.heap.size w w' := by
  have hx' := hx.alloc (.cells #[] 3)
  obtain ⟨p, c, rfl, ⟨hl, hpn⟩, hc, hpx⟩ := hx
  have q22 : ∀ (w : World) (a : Option Addr) (n c n' c' : Nat), (binOp .eql 23 (.slice a n c) (.slice none n' c')).run Try.prog w = .ok (.bool a.isNone) w := fun w a n c n' c' => Lib.run_eql_slice_nil w _ _ a n c n' c' Try.underlying23
  cases p with
  | none =>
    have hn : xs = [] := by
      by_cases e : xs = []
      · exact e
      · obtain ⟨b, off, h0, _⟩ := hpx e
        cases h0
    subst hn
    clear hx' hpx
    go_enter Try.func76, Try.ntmps76
    go_wp2
    go_ret
    exact ⟨_, rfl, ⟨rfl, .inl ⟨rfl, rfl⟩⟩, Below.refl _ _⟩
  | some ad =>
    clear hpx
    go_enter Try.func76, Try.ntmps76
    go_wp2_with (at_builtin; refine app_row rfl (.tmp 5) (.tmp 6) rfl w.heap.size _ 0 [] rfl (World.ownsRow_lit w #[] 0 (Nat.le_refl _) (Nat.zero_le _) rfl) lo hi _ xs rfl hx' (by omega) (by simp) ?_; intro v' w' hown hgr hbel)
    go_ret
    exact ⟨_, rfl, by simpa using hown, ((Below.refl _ w).alloc (Nat.le_refl _) _).trans hbel⟩

/-! ### Without one -/
/-- The closure: is it that one, which lies in its own cell? -/
theorem qIs_any (d x : Int) (B : Nat) (w : World) (hc : w.cell? ⟨B, 0, none⟩ = some (.int .i64 d)) :
    Calls Try.prog 71 #[.int .i64 x, .pointer (some ⟨B, 0, none⟩)] w fun e w' => e = .returned (.bool (decide (x = d))) ∧ w' = w := by
  by_cases h : x = d
  · rw [decide_eq_true h]
    have h2 : (x == d) = true := by simpa using h
    go_enter Try.func71, Try.ntmps71
    go_wp2
    go_ret
    exact ⟨rfl, rfl⟩
  · rw [decide_eq_false h]
    have h2 : (x == d) = false := by simpa using h
    go_enter Try.func71, Try.ntmps71
    go_wp2
    go_ret
    exact ⟨rfl, rfl⟩

theorem qDelete_none (p : Option Addr) (c : Nat) (fv : Value) (w : World) :
    Calls Try.prog 75 #[.slice p 0 c, fv] w fun e w' => e = .returned (.slice p 0 c) ∧ w' = w := by
  go_enter Try.func75, Try.ntmps75
  go_wp2_with (go_at_call 62; refine (AnyE.slices_IndexFunc_empty paIndexL p c fv _).mono ?_; rintro e w' ⟨rfl, hw'⟩; subst w')
  go_ret
  exact ⟨rfl, rfl⟩

/-- slices.DeleteFunc by that closure, over a row of the call's own. -/
theorem qDelete_any {w : World} {base : Nat} (d : Int) (B : Nat) (v : Value) (ys : List Int) (hl : ys.length ≤ 64)
    (hown : w.ownsRow base 3 1 v ys.length (ys.map (Value.int .i64))) (hc : w.cell? ⟨B, 0, none⟩ = some (.int .i64 d)) (hB : B < base) :
    Calls Try.prog 75 #[v, .func (.func 71) #[] #[.pointer (some ⟨B, 0, none⟩)]] w fun e w' =>
      ∃ u, e = .returned u ∧ w'.ownsRow base 3 1 u (ys.filter (neB d)).length ((ys.filter (neB d)).map (Value.int .i64)) ∧ Below base w w' := by
  by_cases h0 : ys = []
  · subst h0
    have hv : ∃ p c, v = .slice p 0 c := by
      rcases hown.2 with ⟨rfl, _⟩ | ⟨g, cap, cur, rfl, _⟩
      · exact ⟨_, _, rfl⟩
      · exact ⟨_, _, rfl⟩
    obtain ⟨p, c, rfl⟩ := hv
    refine (qDelete_none p c _ w).mono ?_
    rintro e w' ⟨rfl, rfl⟩
    exact ⟨_, rfl, hown, Below.refl _ _⟩
  · have hp0 : 0 < ys.length := List.length_pos_iff.2 h0
    have hv : v ≠ .slice none 0 0 := fun e => by
      subst e
      rcases hown.2 with ⟨_, h⟩ | ⟨_, _, _, h, _⟩
      · omega
      · cases h
    obtain ⟨g, cap, rfl, hbg, hgw, hnc, hcm, hzl, hH⟩ := Lib.holds_of_ownsRow (zs := ys) hown hv
    clear hv
    have hBw : B < w.heap.size := World.block_lt_of_cell? _ _ hc
    have hne : B ≠ g := by omega
    have eg : ∀ args w, (callFunc 71 args).run Try.prog w = .ok (.enter 71 args) w := enters_of Try.func71 (by kernel_rfl) rfl
    have hp : PredAt Try.prog 71 #[.pointer (some ⟨B, 0, none⟩)] (Value.int .i64) (fun x => decide (x = d)) w := fun W x hW => by
      unfold FnGives
      exact (qIs_any d x B W ((hW.cell (p := ⟨B, 0, none⟩) hBw).trans hc)).mono fun e w' ⟨he, hw⟩ => ⟨he, 0, hw⟩
    have hpo : PredOver Try.prog 71 #[.pointer (some ⟨B, 0, none⟩)] (Value.int .i64) (fun x => decide (x = d)) g 0 ys.toArray.size w := fun m os dk x hdk => by
      unfold FnGives
      have hc' : (sortWorld (Value.int .i64) w g 0 m dk os).cell? ⟨B, 0, none⟩ = some (.int .i64 d) := by
        unfold sortWorld
        rw [cell?_grow _ _ _ (by simpa using hBw), cell?_putRow_other _ _ _ _ _ _ (.inl hne)]
        exact hc
      exact (qIs_any d x B _ hc').mono fun e w' ⟨he, hw⟩ => ⟨he, 0, hw⟩
    have hf : (ys.filter fun x => !decide (x = d)) = ys.filter (neB d) := rfl
    have h := AnyE.slices_DeleteFunc paDeleteL (Value.int .i64) (fun _ => rfl) (fun x => decide (x = d)) 71 #[.pointer (some ⟨B, 0, none⟩)] eg 0 Try.zeroValue3 g 0 cap ys.toArray w hp hpo hH (by simp; omega) (by simpa using hnc)
    simp only [List.size_toArray, hf] at h
    refine h.mono ?_
    rintro e w' ⟨rfl, q, rfl⟩
    have hk := List.length_filter_le (neB d) ys
    refine ⟨_, rfl, ?_, Lib.below_putRow (Below.refl _ _) hbg⟩
    have h1 := Lib.ownsRow_putRow (enc := Value.int .i64) (q := q) (ys := ys.filter (neB d) ++ List.replicate (ys.length - (ys.filter (neB d)).length) 0) (k := (ys.filter (neB d)).length) hown (by simp; omega) hk
    rw [List.take_left] at h1
    exact h1

theorem qTake_any {lo hi : Nat} {w : World} {v : Value} {xs : List Int} (hx : RowI lo hi w v xs) (hl : xs.length ≤ 64) (d : Int) (B : Nat) (hc : w.cell? ⟨B, 0, none⟩ = some (.int .i64 d)) :
    Calls Try.prog 70 #[v, .func (.func 71) #[] #[.pointer (some ⟨B, 0, none⟩)]] w fun e w' =>
      ∃ u, e = .returned u ∧ RowI w.heap.size w'.heap.size w' u (xs.filter (neB d)) ∧ Below w.heap.size w w' := by
  have hBw : B < w.heap.size := World.block_lt_of_cell? _ _ hc
  have HC := qClone_any hx (by omega)
  have HD := fun (w1 : World) (u : Value) (hown : w1.ownsRow w.heap.size 3 1 u xs.length (xs.map (Value.int .i64))) (hb : Below w.heap.size w w1) => qDelete_any d B u xs hl hown ((hb.cell (p := ⟨B, 0, none⟩) hBw).trans hc) hBw
  clear hc hx
  go_enter Try.func70, Try.ntmps70
  go_wp2_with (first
    | (go_at_call 76; refine HC.mono ?_; rintro e w1 ⟨u, rfl, hown, hb1⟩)
    | (go_at_call 75; refine (HD w1 u hown hb1).mono ?_; rintro e w2 ⟨u2, rfl, hown2, hb2⟩))
  go_ret
  exact ⟨_, rfl, RowI.of_owns hown2, hb1.trans hb2⟩

/-! ### The faces -/
set_option maxHeartbeats 400000 in
theorem qWithout_any {lo hi : Nat} {w : World} {v : Value} {xs : List Int} (hx : RowI lo hi w v xs) (d : Int) :
    Calls Try.prog 51 #[v, .int .i64 d] w fun e w' => ∃ u, e = .returned (.tuple #[u, .int .i64 (woE xs d)]) ∧ RowI w.heap.size w'.heap.size w' u (woL xs d) ∧ Below w.heap.size w w' := by
  have H1 := qMay_any (hx.alloc (.cells #[.int .i64 d] 3))
  rcases Bool.eq_false_or_eq_true (paB xs) with h | h
  · rcases Bool.eq_false_or_eq_true (plB d) with hd | hd
    · obtain ⟨e1, e2⟩ := wo_ok h hd
      rw [e1, e2]
      obtain ⟨h1, h2, h3⟩ := paB_iff.1 h
      have hm := fun q => qTake_any ((hx.alloc (.cells #[.int .i64 d] 3)).drewN q) (by omega) d w.heap.size (by simp)
      rw [h] at H1
      clear e1 e2 h h2 h3 hx
      go_enter Try.func51, Try.ntmps51
      go_wp2_with (first
        | (go_at_call 42; refine H1.mono ?_; rintro e w1 ⟨rfl, q, hw1⟩; subst w1)
        | (go_at_call 59; refine (qNo_any _ _).mono ?_; rintro e w' ⟨rfl, hw'⟩; subst w')
        | (go_at_call 70; refine (hm _).mono ?_; rintro e w2 ⟨u, rfl, hR, hb2⟩))
      go_ret2
      exact ⟨_, rfl, hR.wide (by simp) (Nat.le_refl _), (((Below.refl _ w).onA _).onD q).on hb2⟩
    · obtain ⟨e1, e2⟩ := wo_form (xs := xs) (.inr hd)
      rw [e1, e2]
      rw [h] at H1
      clear e1 e2 h hx
      go_enter Try.func51, Try.ntmps51
      go_wp2_with (first
        | (go_at_call 42; refine H1.mono ?_; rintro e w1 ⟨rfl, q, hw1⟩; subst w1)
        | (go_at_call 59; refine (qNo_any _ _).mono ?_; rintro e w' ⟨rfl, hw'⟩; subst w'))
      go_ret2
      exact ⟨_, rfl, RowI.nil0, ((Below.refl _ w).onA _).onD q⟩
  · obtain ⟨e1, e2⟩ := wo_form (d := d) (.inl h)
    rw [e1, e2]
    rw [h] at H1
    clear e1 e2 h hx
    go_enter Try.func51, Try.ntmps51
    go_wp2_with (first
      | (go_at_call 42; refine H1.mono ?_; rintro e w1 ⟨rfl, q, hw1⟩; subst w1))
    go_ret2
    exact ⟨_, rfl, RowI.nil0, ((Below.refl _ w).onA _).onD q⟩

theorem qWithout_at {lo hi : Nat} {w : World} {v : Value} {xs ys : List Int} {err : Int} (hx : RowI lo hi w v xs) (d : Int) (hL : woL xs d = ys) (hE : woE xs d = err) :
    Calls Try.prog 51 #[v, .int .i64 d] w fun e w' => ∃ u, e = .returned (.tuple #[u, .int .i64 err]) ∧ RowI w.heap.size w'.heap.size w' u ys ∧ Below w.heap.size w w' := by
  subst hL hE
  exact qWithout_any hx d

end Go.Proofs.Ytgopjjclobgekaa
