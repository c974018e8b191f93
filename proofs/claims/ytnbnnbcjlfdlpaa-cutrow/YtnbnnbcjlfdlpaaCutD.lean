
/-
  Contracts of package cuts' faces: with one more, without one, is it there; in the document's words.
-/
import Derived.Test.YtnbnnbcjlfdlpaaCutC
namespace Go.Proofs.Ytnbnnbcjlfdlpaa
open Go.ChangeShapes Go.WideShapes Go.ChangeAt Go.RowKit

theorem cOk_iff2 {cs : List Cu} {a b : Int} : cOk cs a b = true ↔ csB cs = true ∧ plB a = true ∧ plB b = true ∧ ¬ a = b := by simp [cOk]
theorem wc_len_no {cs : List Cu} {d : Cu} (h : UpC cs) (hx : ∀ c ∈ cs, cuB c = true) (hd : cuB d = true) (hn : ¬ d ∈ cs) : (wcI cs d).length = cs.length + 1 := by
  rw [wc_len h hx hd, List.filter_eq_self.2 fun x hx => by simp [neC]; intro e; exact hn (e ▸ hx)]
theorem mk_of (a b : Int) : ∃ d : Cu, mkC a b = d := ⟨_, rfl⟩

set_option maxHeartbeats 1000000 in
theorem uIs_all {lo hi : Nat} {w : World} {v : Value} {cs : List Cu} (hx : RowU lo hi w v cs) (hh : hi ≤ w.heap.size) (a b : Int) :
    Calls Try.prog 12 #[v, .int .i64 a, .int .i64 b] w fun e w' => e = .returned (.tuple #[.bool (icR cs a b), .int .i64 (icE cs a b)]) ∧ Below w.heap.size w w' := by
  have HM := uMay_any hx hh
  have HU := uUnlike_any a b
  cases hs : csB cs with
  | false =>
    have e1 : icR cs a b = false := by simp [icR, cOk, hs]
    have e2 : icE cs a b = 1500 := by simp [icE, cOk, hs]
    rw [e1, e2]
    rw [hs] at HM
    obtain ⟨p, c, rfl, hn, -⟩ := hx.cus hh
    clear e1 e2 hs hx HU
    go_enter Try.func12, Try.ntmps12
    go_wp2_with (first
      | (go_at_call 16; refine HM.mono ?_; rintro e w1 ⟨rfl, h1⟩))
    go_ret2
    exact ⟨rfl, h1⟩
  | true =>
    rw [hs] at HM
    cases hu : unB a b with
    | false =>
      have e1 : icR cs a b = false := by simp [icR, cOk_un, hu]
      have e2 : icE cs a b = 1500 := by simp [icE, cOk_un, hu]
      rw [e1, e2]
      rw [hu] at HU
      obtain ⟨p, c, rfl, hn, -⟩ := hx.cus hh
      clear e1 e2 hs hx hu
      go_enter Try.func12, Try.ntmps12
      go_wp2_with (first
        | (go_at_call 16; refine HM.mono ?_; rintro e w1 ⟨rfl, h1⟩)
        | (go_at_call 22; refine (HU _).mono ?_; rintro e w' ⟨rfl, hw'⟩; subst w'))
      go_ret2
      exact ⟨rfl, h1⟩
    | true =>
      have hok : cOk cs a b = true := by rw [cOk_un, hs, hu]; rfl
      obtain ⟨-, hpa, hpb, hne⟩ := cOk_iff2.1 hok
      have e1 : icR cs a b = decide (mkC a b ∈ cs) := by simp [icR, hok]
      have e2 : icE cs a b = 0 := by simp [icE, hok]
      have hd := mk_ok hpa hpb hne
      have HB := uBetween_any a b
      rw [e1, e2]
      rw [hu] at HU
      obtain ⟨d, hmk⟩ := mk_of a b
      rw [hmk] at HB hd ⊢
      have HF : Hid (∀ W, Below w.heap.size w W → _) := fun W hb => uFind_any (hx.below hb hh) (Nat.le_trans hh hb.size) hs d hd
      obtain ⟨r, hr⟩ : ∃ r, decide (d ∈ cs) = r := ⟨_, rfl⟩
      rw [hr] at HF ⊢
      obtain ⟨p, c, rfl, hn, -⟩ := hx.cus hh
      clear e1 e2 hs hx hu hok hpa hpb hne hd hmk hr
      generalize posC cs d = m at *
      generalize PosC cs d m = PP at *
      obtain ⟨da, db⟩ := d
      go_enter Try.func12, Try.ntmps12
      go_wp2_with (first
        | (go_at_call 16; refine HM.mono ?_; rintro e w1 ⟨rfl, h1⟩)
        | (go_at_call 22; refine (HU _).mono ?_; rintro e w' ⟨rfl, hw'⟩; subst w')
        | (go_at_call 23; refine (HB _).mono ?_; rintro e w2 ⟨rfl, h2⟩)
        | (go_at_call 24; refine (HF.out _ (h1.on h2)).mono ?_; rintro e w3 ⟨rfl, -, h3⟩))
      go_ret2
      exact ⟨rfl, (h1.on h2).on h3⟩

set_option maxHeartbeats 1000000 in
theorem uWithout_any {lo hi : Nat} {w : World} {v : Value} {cs : List Cu} (hx : RowU lo hi w v cs) (hh : hi ≤ w.heap.size) (a b : Int) :
    Calls Try.prog 10 #[v, .int .i64 a, .int .i64 b] w fun e w' => ∃ u, e = .returned (.tuple #[u, .int .i64 (icE cs a b)]) ∧ RowU w.heap.size w'.heap.size w' u (ocL cs a b) ∧ Below w.heap.size w w' := by
  have HM := uMay_any hx hh
  have HU := uUnlike_any a b
  cases hs : csB cs with
  | false =>
    have e1 : ocL cs a b = [] := by simp [ocL, cOk, hs]
    have e2 : icE cs a b = 1500 := by simp [icE, cOk, hs]
    rw [e1, e2]
    rw [hs] at HM
    obtain ⟨p, c, rfl, hn, -⟩ := hx.cus hh
    clear e1 e2 hs hx HU
    go_enter Try.func10, Try.ntmps10
    go_wp2_with (first
      | (go_at_call 16; refine HM.mono ?_; rintro e w1 ⟨rfl, h1⟩))
    go_ret2
    exact ⟨_, rfl, RowC.nil0, h1⟩
  | true =>
    rw [hs] at HM
    cases hu : unB a b with
    | false =>
      have e1 : ocL cs a b = [] := by simp [ocL, cOk_un, hu]
      have e2 : icE cs a b = 1500 := by simp [icE, cOk_un, hu]
      rw [e1, e2]
      rw [hu] at HU
      obtain ⟨p, c, rfl, hn, -⟩ := hx.cus hh
      clear e1 e2 hs hx hu
      go_enter Try.func10, Try.ntmps10
      go_wp2_with (first
        | (go_at_call 16; refine HM.mono ?_; rintro e w1 ⟨rfl, h1⟩)
        | (go_at_call 22; refine (HU _).mono ?_; rintro e w' ⟨rfl, hw'⟩; subst w'))
      go_ret2
      exact ⟨_, rfl, RowC.nil0, h1⟩
    | true =>
      have hok : cOk cs a b = true := by rw [cOk_un, hs, hu]; rfl
      obtain ⟨hl, hv, hup⟩ := csB_iff.1 hs
      have e1 : ocL cs a b = cs.filter (neC (mkC a b)) := by simp [ocL, hok]
      have e2 : icE cs a b = 0 := by simp [icE, hok]
      have HB := uBetween_any a b
      rw [e1, e2]
      rw [hu] at HU
      obtain ⟨d, hmk⟩ := mk_of a b
      rw [hmk] at HB ⊢
      have HT : Hid (∀ W, Below w.heap.size w W → _) := fun W hb => uTake_any (hx.below hb hh) (by omega) hup d.a d.b
      obtain ⟨p, c, rfl, hn, -⟩ := hx.cus hh
      clear e1 e2 hs hx hu hok hl hv hup hmk
      obtain ⟨da, db⟩ := d
      generalize cs.filter (neC ⟨da, db⟩) = ys at *
      go_enter Try.func10, Try.ntmps10
      go_wp2_with (first
        | (go_at_call 16; refine HM.mono ?_; rintro e w1 ⟨rfl, h1⟩)
        | (go_at_call 22; refine (HU _).mono ?_; rintro e w' ⟨rfl, hw'⟩; subst w')
        | (go_at_call 23; refine (HB _).mono ?_; rintro e w2 ⟨rfl, h2⟩)
        | (go_at_call 27; refine (HT.out _ (h1.on h2)).mono ?_; rintro e w3 ⟨u, rfl, hR, h3⟩))
      go_ret2
      exact ⟨_, rfl, hR.wide (h1.on h2).size (Nat.le_refl _), (h1.on h2).on h3⟩

set_option maxHeartbeats 1000000 in
theorem uWith_any {lo hi : Nat} {w : World} {v : Value} {cs : List Cu} (hx : RowU lo hi w v cs) (hh : hi ≤ w.heap.size) (a b : Int) :
    Calls Try.prog 8 #[v, .int .i64 a, .int .i64 b] w fun e w' => ∃ u, e = .returned (.tuple #[u, .int .i64 (wcE cs a b)]) ∧ RowU w.heap.size w'.heap.size w' u (wcL cs a b) ∧ Below w.heap.size w w' := by
  have HM := uMay_any hx hh
  have HU := uUnlike_any a b
  cases hs : csB cs with
  | false =>
    have e1 : wcL cs a b = [] := by simp [wcL, cOk, hs]
    have e2 : wcE cs a b = 1500 := by simp [wcE, cOk, hs]
    rw [e1, e2]
    rw [hs] at HM
    obtain ⟨p, c, rfl, hn, -⟩ := hx.cus hh
    clear e1 e2 hs hx HU
    go_enter Try.func8, Try.ntmps8
    go_wp2_with (first
      | (go_at_call 16; refine HM.mono ?_; rintro e w1 ⟨rfl, h1⟩))
    go_ret2
    exact ⟨_, rfl, RowC.nil0, h1⟩
  | true =>
    rw [hs] at HM
    cases hu : unB a b with
    | false =>
      have e1 : wcL cs a b = [] := by simp [wcL, cOk_un, hu]
      have e2 : wcE cs a b = 1500 := by simp [wcE, cOk_un, hu]
      rw [e1, e2]
      rw [hu] at HU
      obtain ⟨p, c, rfl, hn, -⟩ := hx.cus hh
      clear e1 e2 hs hx hu
      go_enter Try.func8, Try.ntmps8
      go_wp2_with (first
        | (go_at_call 16; refine HM.mono ?_; rintro e w1 ⟨rfl, h1⟩)
        | (go_at_call 22; refine (HU _).mono ?_; rintro e w' ⟨rfl, hw'⟩; subst w'))
      go_ret2
      exact ⟨_, rfl, RowC.nil0, h1⟩
    | true =>
      have hok : cOk cs a b = true := by rw [cOk_un, hs, hu]; rfl
      obtain ⟨-, hpa, hpb, hne⟩ := cOk_iff2.1 hok
      obtain ⟨hl, hv, hup⟩ := csB_iff.1 hs
      have hd := mk_ok hpa hpb hne
      have HB := uBetween_any a b
      rw [hu] at HU
      by_cases hin : mkC a b ∈ cs
      · have hws := wc_same hup hv hin
        have e1 : wcL cs a b = cs := by simp [wcL, hok, hws, hl]
        have e2 : wcE cs a b = 0 := by simp [wcE, hok, hws, hl]
        rw [e1, e2]
        obtain ⟨d, hmk⟩ := mk_of a b
        rw [hmk] at HB hd hin
        have HF : Hid (∀ W, Below w.heap.size w W → _) := fun W hb => uFind_any (hx.below hb hh) (Nat.le_trans hh hb.size) hs d hd
        rw [decide_eq_true hin] at HF
        have HC : Hid (∀ W, Below w.heap.size w W → _) := fun W hb => uCopied_any (hx.below hb hh) (by omega)
        obtain ⟨p, c, rfl, hn, -⟩ := hx.cus hh
        clear e1 e2 hs hx hu hok hpa hpb hne hd hmk hin hws hl hv hup
        generalize posC cs d = m at *
        generalize PosC cs d m = PP at *
        obtain ⟨da, db⟩ := d
        go_enter Try.func8, Try.ntmps8
        go_wp2_with (first
          | (go_at_call 16; refine HM.mono ?_; rintro e w1 ⟨rfl, h1⟩)
          | (go_at_call 22; refine (HU _).mono ?_; rintro e w' ⟨rfl, hw'⟩; subst w')
          | (go_at_call 23; refine (HB _).mono ?_; rintro e w2 ⟨rfl, h2⟩)
          | (go_at_call 24; refine (HF.out _ ((h1.on h2).onA _)).mono ?_; rintro e w3 ⟨rfl, -, h3⟩
             have k3 := ((h1.on h2).onA _).on h3)
          | (go_at_call 25; refine (HC.out _ k3).mono ?_; rintro e w4 ⟨u, rfl, hown, h4⟩))
        go_ret2
        exact ⟨_, rfl, (RowC.of_owns (by omega) CuV_len hown).wide k3.size (Nat.le_refl _), k3.on h4⟩
      · have hwl := wc_len_no hup hv hd hin
        by_cases hf : cs.length = 32
        · have e1 : wcL cs a b = [] := by simp [wcL, hok, hwl, hf]
          have e2 : wcE cs a b = 1501 := by simp [wcE, hok, hwl, hf]
          rw [e1, e2]
          obtain ⟨d, hmk⟩ := mk_of a b
          rw [hmk] at HB hd hin
          have HF : Hid (∀ W, Below w.heap.size w W → _) := fun W hb => uFind_any (hx.below hb hh) (Nat.le_trans hh hb.size) hs d hd
          rw [decide_eq_false hin] at HF
          have hf1 : (cs.length : Int) = 32 := by omega
          obtain ⟨p, c, rfl, hn, -⟩ := hx.cus hh
          clear e1 e2 hs hx hu hok hpa hpb hne hd hmk hin hl hv hup hwl
          generalize posC cs d = m at *
          generalize PosC cs d m = PP at *
          generalize cs.length = n at *
          subst hf
          obtain ⟨da, db⟩ := d
          go_enter Try.func8, Try.ntmps8
          go_wp2_with (first
            | (go_at_call 16; refine HM.mono ?_; rintro e w1 ⟨rfl, h1⟩)
            | (go_at_call 22; refine (HU _).mono ?_; rintro e w' ⟨rfl, hw'⟩; subst w')
            | (go_at_call 23; refine (HB _).mono ?_; rintro e w2 ⟨rfl, h2⟩)
            | (go_at_call 24; refine (HF.out _ ((h1.on h2).onA _)).mono ?_; rintro e w3 ⟨rfl, -, h3⟩
               have k3 := ((h1.on h2).onA _).on h3))
          go_ret2
          exact ⟨_, rfl, RowC.nil0, k3⟩
        · have e1 : wcL cs a b = wcI cs (mkC a b) := by simp [wcL, hok, hwl]; intro h; omega
          have e2 : wcE cs a b = 0 := by simp [wcE, hok, hwl]; omega
          rw [e1, e2]
          obtain ⟨d, hmk⟩ := mk_of a b
          rw [hmk] at HB hd hin ⊢
          have HF : Hid (∀ W, Below w.heap.size w W → _) := fun W hb => uFind_any (hx.below hb hh) (Nat.le_trans hh hb.size) hs d hd
          rw [decide_eq_false hin] at HF
          have HN : Hid (∀ W, Below w.heap.size w W → PosC cs d (posC cs d) → Calls Try.prog 26 #[v, .int .i64 (posC cs d), .agg #[.int .i64 d.a, .int .i64 d.b]] W fun e W' => ∃ o, e = .returned o ∧ RowU W.heap.size W'.heap.size W' o (wcI cs d) ∧ Below W.heap.size W W') := toHid (fun W hb hP => by
            rw [hP.new hv hd hin]
            exact uNew_any (hx.below hb hh) (Nat.le_trans hh hb.size) hl _ hP.le d.a d.b)
          have hf1 : ¬ (cs.length : Int) = 32 := by omega
          have hf2 : ((cs.length : Int) == 32) = false := by simpa using hf1
          obtain ⟨p, c, rfl, hn, -⟩ := hx.cus hh
          clear e1 e2 hs hx hu hok hpa hpb hne hd hmk hin hl hv hup hwl hf
          generalize wcI cs d = ys at *
          generalize hP : PosC cs d (posC cs d) = PP at *
          clear hP
          generalize posC cs d = m at *
          generalize cs.length = n at *
          obtain ⟨da, db⟩ := d
          dsimp only at HN
          go_enter Try.func8, Try.ntmps8
          go_wp2_with (first
            | (go_at_call 16; refine HM.mono ?_; rintro e w1 ⟨rfl, h1⟩)
            | (go_at_call 22; refine (HU _).mono ?_; rintro e w' ⟨rfl, hw'⟩; subst w')
            | (go_at_call 23; refine (HB _).mono ?_; rintro e w2 ⟨rfl, h2⟩)
            | (go_at_call 24; refine (HF.out _ ((h1.on h2).onA _)).mono ?_; rintro e w3 ⟨rfl, hP, h3⟩
               have k3 := ((h1.on h2).onA _).on h3
               obtain ⟨x1, x2, x3⟩ := (Box.new w2 #[.int .i64 da, .int .i64 db] 40).below h3)
            | (go_at_call 26; refine (HN.out _ k3 hP).mono ?_; rintro e w4 ⟨o, rfl, hR, h4⟩))
          go_ret2
          exact ⟨_, rfl, hR.wide k3.size (Nat.le_refl _), k3.on h4⟩

/-! ### The answers told apart -/
theorem uWith_at {lo hi : Nat} {w : World} {v : Value} {cs ys : List Cu} {err : Int} (hx : RowU lo hi w v cs) (hh : hi ≤ w.heap.size) (a b : Int) (hL : wcL cs a b = ys) (hE : wcE cs a b = err) :
    Calls Try.prog 8 #[v, .int .i64 a, .int .i64 b] w fun e w' => ∃ u, e = .returned (.tuple #[u, .int .i64 err]) ∧ RowU w.heap.size w'.heap.size w' u ys ∧ Below w.heap.size w w' := by
  subst hL hE
  exact uWith_any hx hh a b
theorem uWithout_at {lo hi : Nat} {w : World} {v : Value} {cs ys : List Cu} {err : Int} (hx : RowU lo hi w v cs) (hh : hi ≤ w.heap.size) (a b : Int) (hL : ocL cs a b = ys) (hE : icE cs a b = err) :
    Calls Try.prog 10 #[v, .int .i64 a, .int .i64 b] w fun e w' => ∃ u, e = .returned (.tuple #[u, .int .i64 err]) ∧ RowU w.heap.size w'.heap.size w' u ys ∧ Below w.heap.size w w' := by
  subst hL hE
  exact uWithout_any hx hh a b
theorem uIs_at {lo hi : Nat} {w : World} {v : Value} {cs : List Cu} {r : Bool} {err : Int} (hx : RowU lo hi w v cs) (hh : hi ≤ w.heap.size) (a b : Int) (hL : icR cs a b = r) (hE : icE cs a b = err) :
    Calls Try.prog 12 #[v, .int .i64 a, .int .i64 b] w fun e w' => e = .returned (.tuple #[.bool r, .int .i64 err]) ∧ Below w.heap.size w w' := by
  subst hL hE
  exact uIs_all hx hh a b

end Go.Proofs.Ytnbnnbcjlfdlpaa
