/-
  Contract of package store's Put, at every list of items: what it returns, in new memory, and that no old memory has turned.
-/
import Derived.Test.YtmbommkehchchaaStoreC
namespace Go.Proofs.Ytmbommkehchchaa
open Go.ChangeShapes Go.WideShapes Go.ChangeAt Go.RowKit

theorem take_lt {xs : List It} {x : It} {m : Nat} (hP : PosOf xs x.k m) : ∀ a ∈ xs.take m, a.k < x.k := by
  intro a ha
  obtain ⟨j, hj, rfl⟩ := List.mem_iff_getElem.1 ha
  have hjm : j < m ∧ j < xs.length := by rw [List.length_take] at hj; omega
  rw [List.getElem_take, ← getD_at _ ⟨0, 0, 0, 0, false⟩ hjm.2]
  exact hP.lt j hjm.1
theorem ins_new {xs : List It} {x : It} {m : Nat} (hP : PosOf xs x.k m) (hl : look xs x.k = none) : ins xs x = xs.take m ++ (x :: xs.drop m) := by
  conv => lhs; rw [← List.take_append_drop m xs]
  rw [ins_app (take_lt hP)]
  congr 1
  cases hd : xs.drop m with
  | nil => rfl
  | cons b r =>
    have hm : m < xs.length := by
      rcases Nat.lt_or_ge m xs.length with h | h
      · exact h
      · rw [List.drop_eq_nil_of_le h] at hd; cases hd
    have hb : b = xs.getD m ⟨0, 0, 0, 0, false⟩ := by
      rw [getD_at _ _ hm]
      have := List.drop_eq_getElem_cons hm
      rw [hd] at this
      exact (List.cons.inj this).1
    have := hP.none hl m (Nat.le_refl _) hm
    show (if x.k < b.k then _ else _) = _
    rw [if_pos (by rw [hb]; exact this)]
theorem ins_set {xs : List It} {x a : It} {m : Nat} (hP : PosOf xs x.k m) (hl : look xs x.k = some a) : ins xs x = xs.set m (mx a x) := by
  obtain ⟨hm, ha, hk⟩ := hP.some a hl
  rw [getD_at _ _ hm] at ha
  conv => lhs; rw [← List.take_append_drop m xs]
  rw [ins_app (take_lt hP), List.drop_eq_getElem_cons hm, ha, List.set_eq_take_append_cons_drop, if_pos hm]
  congr 1
  show (if x.k < a.k then _ else if a.k = x.k then mx a x :: _ else _) = _
  rw [if_neg (by omega), if_pos hk]

set_option maxHeartbeats 1000000 in
theorem sPut_any {lo hi : Nat} {w : World} {v : Value} {xs : List It} (hx : RowT lo hi w v xs) (hh : hi ≤ w.heap.size) (k c u y : Int) (g : Bool) :
    Calls Try.prog 10 #[v, .agg #[.int .i64 k, .int .i64 c, .int .i64 u, .int .i64 y, .bool g]] w fun e w' => ∃ o, e = .returned (.tuple #[o, .int .i64 (putE xs ⟨k, c, u, y, g⟩)]) ∧ RowT w.heap.size w'.heap.size w' o (putL xs ⟨k, c, u, y, g⟩) ∧ Below w.heap.size w w' := by
  rcases Bool.eq_false_or_eq_true (stB xs) with hs | hs
  · have HM : Hid (∀ w', Below w.heap.size w w' → _) := fun w' hb => sMay_is (hx.below hb hh) (Nat.le_trans hh hb.size) hs
    rcases Bool.eq_false_or_eq_true (itB ⟨k, c, u, y, g⟩) with hi' | hi'
    · obtain ⟨hv, hsr, hl⟩ := stB_iff.1 hs
      have hP := posOf_any k hsr
      have HF : Hid (∀ w', Below w.heap.size w w' → _) := fun w' hb => sFind_pos (hx.below hb hh) (Nat.le_trans hh hb.size) hl hsr k
      cases hlk : look xs k with
      | some a =>
        obtain ⟨hm, ha, hk⟩ := hP.some a hlk
        have hav : itB a = true := (look_val hv hlk).1
        have hins : ins xs ⟨k, c, u, y, g⟩ = xs.set (posN xs k) (mx a ⟨k, c, u, y, g⟩) := ins_set hP hlk
        obtain ⟨e1, e2, _⟩ := put_ok hs hi' (by rw [hins, List.length_set]; exact hl)
        rw [hlk] at HF
        dsimp only [Option.isSome] at HF
        have HB : Hid (∀ w', Below w.heap.size w w' → _) := fun w' hb => sBest_any (hx.below hb hh) (Nat.le_trans hh hb.size) hl (posN xs k) hm k c u y g
        rw [show xs[posN xs k] = a by rw [← ha, getD_at _ _ hm], (bst_mx hav hi' hk).1, ← hins, ← e1] at HB
        rw [e2]
        obtain ⟨p, cc, rfl, hn, hp⟩ := hx.its hh
        clear hp hx hs hv hsr hP hlk hins e1 e2 ha hav hk hm
        generalize posN xs k = m at *
        generalize putL xs ⟨k, c, u, y, g⟩ = ys at *
        generalize xs.length = n at *
        go_enter Try.func10, Try.ntmps10
        go_wp2_with (first
          | (go_at_call 16; refine (HM.out _ ((Below.refl _ w).onA _)).mono ?_; rintro e w1 ⟨rfl, hb1⟩
             have bx1 := (Box.new w _ _).below hb1
             obtain ⟨x1, x2, x3⟩ := id bx1)
          | (go_at_call 24; refine (iMay_yes _ _ _ _ _ _ hi').mono ?_; rintro e w2 ⟨rfl, hb2⟩
             have bx2 := bx1.below hb2
             clear x1 x2 x3
             obtain ⟨x1, x2, x3⟩ := id bx2)
          | (go_at_call 25; refine (HF.out _ ((((Below.refl _ w).onA _).on hb1).on hb2)).mono ?_; rintro e w3 ⟨rfl, hb3⟩
             have bx3 := bx2.below hb3
             clear x1 x2 x3
             obtain ⟨x1, x2, x3⟩ := id bx3)
          | (go_at_call 26; refine (HB.out _ (((((Below.refl _ w).onA _).on hb1).on hb2).on hb3)).mono ?_; rintro e w4 ⟨o, rfl, hR, hb4⟩))
        have hB3 := ((((Below.refl _ w).onA _).on hb1).on hb2).on hb3
        go_ret2
        exact ⟨_, rfl, hR.wide hB3.size (Nat.le_refl _), hB3.on hb4⟩
      | none =>
        have hins : ins xs ⟨k, c, u, y, g⟩ = xs.take (posN xs k) ++ (⟨k, c, u, y, g⟩ :: xs.drop (posN xs k)) := ins_new hP hlk
        have hil : (ins xs ⟨k, c, u, y, g⟩).length = xs.length + 1 := by
          rw [hins, List.length_append, List.length_cons, List.length_take, List.length_drop]
          have := hP.le
          omega
        rw [hlk] at HF
        dsimp only [Option.isSome] at HF
        have hml := hP.le
        by_cases hfull : xs.length = 16
        · obtain ⟨e1, e2⟩ := put_full hs hi' (by rw [hil]; omega)
          rw [e1, e2]
          obtain ⟨p, cc, rfl, hn, hp⟩ := hx.its hh
          have hf1 : (xs.length : Int) = 16 := by omega
          clear hp hx hs hv hsr hP hlk hins e1 e2 hil
          generalize posN xs k = m at *
          generalize xs.length = n at *
          subst hfull
          go_enter Try.func10, Try.ntmps10
          go_wp2_with (first
            | (go_at_call 16; refine (HM.out _ ((Below.refl _ w).onA _)).mono ?_; rintro e w1 ⟨rfl, hb1⟩
               have bx1 := (Box.new w _ _).below hb1
               obtain ⟨x1, x2, x3⟩ := id bx1)
            | (go_at_call 24; refine (iMay_yes _ _ _ _ _ _ hi').mono ?_; rintro e w2 ⟨rfl, hb2⟩
               have bx2 := bx1.below hb2
               clear x1 x2 x3
               obtain ⟨x1, x2, x3⟩ := id bx2)
            | (go_at_call 25; refine (HF.out _ ((((Below.refl _ w).onA _).on hb1).on hb2)).mono ?_; rintro e w3 ⟨rfl, hb3⟩
               have bx3 := bx2.below hb3
               clear x1 x2 x3
               obtain ⟨x1, x2, x3⟩ := id bx3))
          have hB3 := ((((Below.refl _ w).onA _).on hb1).on hb2).on hb3
          go_ret2
          exact ⟨_, rfl, RowC.nil0, hB3⟩
        · obtain ⟨e1, e2, _⟩ := put_ok hs hi' (by rw [hil]; omega)
          have HB : Hid (∀ w', Below w.heap.size w w' → _) := fun w' hb => sNew_any (hx.below hb hh) (Nat.le_trans hh hb.size) hl (posN xs k) hml k c u y g
          rw [← hins, ← e1] at HB
          rw [e2]
          obtain ⟨p, cc, rfl, hn, hp⟩ := hx.its hh
          have hf1 : ¬ (xs.length : Int) = 16 := by omega
          have hf2 : ((xs.length : Int) == 16) = false := by simpa using hf1
          clear hp hx hs hv hsr hP hlk hins e1 e2 hil
          generalize posN xs k = m at *
          generalize putL xs ⟨k, c, u, y, g⟩ = ys at *
          generalize xs.length = n at *
          go_enter Try.func10, Try.ntmps10
          go_wp2_with (first
            | (go_at_call 16; refine (HM.out _ ((Below.refl _ w).onA _)).mono ?_; rintro e w1 ⟨rfl, hb1⟩
               have bx1 := (Box.new w _ _).below hb1
               obtain ⟨x1, x2, x3⟩ := id bx1)
            | (go_at_call 24; refine (iMay_yes _ _ _ _ _ _ hi').mono ?_; rintro e w2 ⟨rfl, hb2⟩
               have bx2 := bx1.below hb2
               clear x1 x2 x3
               obtain ⟨x1, x2, x3⟩ := id bx2)
            | (go_at_call 25; refine (HF.out _ ((((Below.refl _ w).onA _).on hb1).on hb2)).mono ?_; rintro e w3 ⟨rfl, hb3⟩
               have bx3 := bx2.below hb3
               clear x1 x2 x3
               obtain ⟨x1, x2, x3⟩ := id bx3)
            | (go_at_call 27; refine (HB.out _ (((((Below.refl _ w).onA _).on hb1).on hb2).on hb3)).mono ?_; rintro e w4 ⟨o, rfl, hR, hb4⟩))
          have hB3 := ((((Below.refl _ w).onA _).on hb1).on hb2).on hb3
          go_ret2
          exact ⟨_, rfl, hR.wide hB3.size (Nat.le_refl _), hB3.on hb4⟩
    · obtain ⟨e1, e2⟩ := put_form (xs := xs) (x := ⟨k, c, u, y, g⟩) (Or.inr hi')
      rw [e1, e2]
      clear e1 e2
      obtain ⟨p, cc, rfl, hn, hp⟩ := hx.its hh
      clear hp hx hs
      generalize xs.length = n at *
      go_enter Try.func10, Try.ntmps10
      go_wp2_with (first
        | (go_at_call 16; refine (HM.out _ ((Below.refl _ w).onA _)).mono ?_; rintro e w1 ⟨rfl, hb1⟩
           have bx1 := (Box.new w _ _).below hb1
           obtain ⟨x1, x2, x3⟩ := id bx1)
        | (go_at_call 24; refine (iMay_no _ _ _ _ _ _ hi').mono ?_; rintro e w2 ⟨rfl, hb2⟩))
      go_ret2
      exact ⟨_, rfl, RowC.nil0, (((Below.refl _ w).onA _).on hb1).on hb2⟩
  · have HM : Hid (∀ w', Below w.heap.size w w' → _) := fun w' hb => sMay_is (hx.below hb hh) (Nat.le_trans hh hb.size) hs
    obtain ⟨e1, e2⟩ := put_form (xs := xs) (x := ⟨k, c, u, y, g⟩) (Or.inl hs)
    rw [e1, e2]
    clear e1 e2
    obtain ⟨p, cc, rfl, hn, hp⟩ := hx.its hh
    clear hp hx hs
    generalize xs.length = n at *
    go_enter Try.func10, Try.ntmps10
    go_wp2_with (first
      | (go_at_call 16; refine (HM.out _ ((Below.refl _ w).onA _)).mono ?_; rintro e w1 ⟨rfl, hb1⟩))
    go_ret2
    exact ⟨_, rfl, RowC.nil0, ((Below.refl _ w).onA _).on hb1⟩

end Go.Proofs.Ytmbommkehchchaa
