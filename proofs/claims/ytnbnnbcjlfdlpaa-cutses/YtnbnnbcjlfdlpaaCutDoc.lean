
/-
  Contracts of the document's own answers on cuts: whether one is there.
-/
import Derived.Test.YtnbnnbcjlfdlpaaCutRef
namespace Go.Proofs.Ytnbnnbcjlfdlpaa
open Go.ChangeShapes Go.WideShapes Go.ChangeAt Go.RowKit

theorem cOk_iff {cs : List Cu} {a b : Int} : cOk cs a b = true ↔ csB cs = true ∧ plB a = true ∧ plB b = true ∧ ¬ a = b := by simp [cOk]
/-- Where the two of a cut lie. -/
theorem mk_two {a b : Int} (h : ¬ a = b) : (a < b ∧ mkC a b = ⟨a, b⟩) ∨ (b < a ∧ mkC a b = ⟨b, a⟩) := by
  rcases Int.lt_or_gt_of_ne h with h | h
  · have e1 : min a b = a := by omega
    have e2 : max a b = b := by omega
    exact .inl ⟨h, by rw [mkC, e1, e2]⟩
  · have e1 : min a b = b := by omega
    have e2 : max a b = a := by omega
    exact .inr ⟨h, by rw [mkC, e1, e2]⟩

set_option maxHeartbeats 4000000 in
theorem rIsCut_no {lo hi : Nat} {w : World} {v : Value} {cs : List Cu} (hx : RowU lo hi w v cs) (hh : hi ≤ w.heap.size) (a b : Int) (hno : cOk cs a b = false) :
    Calls Try.prog 13 #[v, .int .i64 a, .int .i64 b] w fun e w' => e = .returned (.tuple #[.bool false, .int .i64 1500]) ∧ Below w.heap.size w w' := by
  have HM := rCutsMay_any hx hh
  have key : csB cs = false ∨ (csB cs = true ∧ plB a = false) ∨ (csB cs = true ∧ plB a = true ∧ plB b = false) ∨ (csB cs = true ∧ plB a = true ∧ plB b = true ∧ a = b) := by
    cases h1 : csB cs with
    | false => exact .inl rfl
    | true =>
      cases h2 : plB a with
      | false => exact .inr (.inl ⟨rfl, rfl⟩)
      | true =>
        cases h3 : plB b with
        | false => exact .inr (.inr (.inl ⟨rfl, rfl, rfl⟩))
        | true =>
          simp [cOk, h1, h2, h3] at hno
          exact .inr (.inr (.inr ⟨rfl, rfl, rfl, hno⟩))
  obtain ⟨p, c, rfl, hn, -⟩ := hx.cus hh
  clear hno hx
  rcases key with h1 | ⟨h1, h2⟩ | ⟨h1, h2, h3⟩ | ⟨h1, h2, h3, h4⟩
  all_goals
    rw [h1] at HM
    clear h1
    go_enter Try.func13, Try.ntmps13
    go_wp2_with (first
      | (go_at_call 17; refine HM.mono ?_; rintro e w1 ⟨rfl, h5⟩)
      | (go_at_call 28; refine (rPlaceMay_any _ _).mono ?_; rintro e w' ⟨rfl, hw'⟩; subst w'))
    go_ret2
    exact ⟨rfl, h5⟩

set_option maxHeartbeats 4000000 in
theorem rIsCut_yes {lo hi : Nat} {w : World} {v : Value} {cs : List Cu} (hx : RowU lo hi w v cs) (hh : hi ≤ w.heap.size) (a b : Int) (hok : cOk cs a b = true) :
    Calls Try.prog 13 #[v, .int .i64 a, .int .i64 b] w fun e w' => e = .returned (.tuple #[.bool (decide (mkC a b ∈ cs)), .int .i64 0]) ∧ Below w.heap.size w w' := by
  obtain ⟨h1, h2, h3, h4⟩ := cOk_iff.1 hok
  have HM := rCutsMay_is hx hh h1
  obtain ⟨p, c, rfl, hn, hp⟩ := hx.cus hh
  have h4' : (a == b) = false := by simpa using h4
  obtain ⟨R, hR⟩ : ∃ R, decide (mkC a b ∈ cs) = R := ⟨_, rfl⟩
  rw [hR]
  replace hR := toHid hR
  obtain ⟨d, hd⟩ : ∃ d, mkC a b = d := ⟨_, rfl⟩
  rw [hd] at hR
  clear hok hx h1
  rcases mk_two h4 with ⟨hlt, he⟩ | ⟨hlt, he⟩
  all_goals
    have hmn : min a b = d.a := by rw [← hd, mkC]
    have hmx : max a b = d.b := by rw [← hd, mkC]
    rw [hd] at he
    rw [he] at hmn hmx
    dsimp only at hmn hmx
    replace he := toHid he
    clear hd
    go_enter Try.func13, Try.ntmps13
    go_wp2_with (first
      | (go_at_call 17; refine HM.mono ?_; rintro e w1 ⟨rfl, h5⟩)
      | (go_at_call 28; refine (rPlaceMay_any _ _).mono ?_; rintro e w' ⟨rfl, hw'⟩; subst w'))
    go_loopw [8] (fun s8 wr => ∃ i : Nat, i ≤ cs.length ∧ s8 = .int .i64 i ∧ (∀ x ∈ cs.take i, ¬ x = d) ∧ wr = w1) (fun s8 _ => cs.length - (intOf s8).toNat)
    case atStart => exact ⟨0, Nat.zero_le _, rfl, by simp, rfl⟩
    case round =>
      obtain ⟨i, hi, rfl, hnot, rfl⟩ := hrel
      by_cases hl : i < cs.length
      · obtain ⟨bb, off, rfl, -, hb, h6⟩ := hp (by omega)
        have hat := (h6 i hl).below h5 hb
        rw [getD_in _ _ hl] at hat
        obtain ⟨⟨za, zb⟩, hz⟩ : ∃ z, cs[i] = z := ⟨_, rfl⟩
        rw [hz] at hat
        obtain ⟨c1, c2⟩ := hat
        dsimp only at c1 c2
        have hl' : (i : Int) < (cs.length : Int) := by omega
        have hi0 : 0 ≤ (i : Int) := by omega
        have hstep := take_step hl
        rw [hz] at hstep
        replace hz := toHid hz
        clear hp h6
        by_cases hq : (⟨za, zb⟩ : Cu) = d
        · have hRt : Hid (R = true) := toHid (hR.out.symm.trans (decide_eq_true (by rw [← hq, ← hz.out]; exact List.getElem_mem hl)))
          rw [he.out] at hq
          obtain ⟨rfl, rfl⟩ := Cu.mk.inj hq
          clear hq hstep hnot
          go_wp2
          go_ret2
          exact ⟨by rw [hRt.out]; rfl, h5⟩
        · have hno2 : Hid (∀ x ∈ cs.take (i + 1), ¬ x = d) := toHid (by
            rw [hstep]
            intro x hx
            rcases List.mem_append.1 hx with hx | hx
            · exact hnot x hx
            · rw [List.mem_singleton.1 hx]
              exact hq)
          rw [he.out] at hq
          clear hstep hnot
          rcases Cu.ne hq with h7 | ⟨h7, h8⟩
          all_goals
            clear hq
            go_wp2
            go_roundw
            case rel => exact ⟨i + 1, by omega, by go_num, hno2.out, by trivial⟩
            case measure => simp [intOf]; omega
      · obtain rfl : i = cs.length := by omega
        rw [List.take_length] at hnot
        have hRf : Hid (R = false) := toHid (hR.out.symm.trans (decide_eq_false fun h => hnot d h rfl))
        clear hnot
        go_wp2
        go_ret2
        exact ⟨by rw [hRf.out]; rfl, h5⟩

theorem rIsCut_any {lo hi : Nat} {w : World} {v : Value} {cs : List Cu} (hx : RowU lo hi w v cs) (hh : hi ≤ w.heap.size) (a b : Int) :
    Calls Try.prog 13 #[v, .int .i64 a, .int .i64 b] w fun e w' => e = .returned (.tuple #[.bool (icR cs a b), .int .i64 (icE cs a b)]) ∧ Below w.heap.size w w' := by
  cases h : cOk cs a b with
  | false =>
    have e1 : icR cs a b = false := by simp [icR, h]
    have e2 : icE cs a b = 1500 := by simp [icE, h]
    rw [e1, e2]
    exact rIsCut_no hx hh a b h
  | true =>
    have e1 : icR cs a b = decide (mkC a b ∈ cs) := by simp [icR, h]
    have e2 : icE cs a b = 0 := by simp [icE, h]
    rw [e1, e2]
    exact rIsCut_yes hx hh a b h

end Go.Proofs.Ytnbnnbcjlfdlpaa
