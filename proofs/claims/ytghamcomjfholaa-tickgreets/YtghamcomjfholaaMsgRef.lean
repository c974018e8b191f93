
/-
  Contract of the document's own answer whether a message may be, at every message: what it returns, and that no old memory has turned.
-/
import Derived.Test.YtghamcomjfholaaMsgMath
import Derived.Test.YtghamcomjfholaaVer
import Derived.Test.YtghamcomjfholaaOnly
import Derived.Deep.DeepCutAuto
import Derived.Deep.CutRange
import Derived.Deep.CutBlock
namespace Go.Proofs.Ytghamcomjfholaa
open Go.ChangeShapes Go.WideShapes Go.ChangeAt Go.RowKit

def bareB (k : Int) (t : It) (h : Bool) : Bool := decide (k = 0) && (zeB t && !h)

theorem kn0 (is : List Int) (k : Int) (t : It) (h : Bool) : knB 0 is k t h = (bareB k t h && (plsB is && decide (is.length ≤ 16))) := by
  simp only [knB, if_true, grtB, bareB, nmdB]
  cases decide (is.length ≤ 16) <;> cases plsB is <;> simp
theorem kn1 (is : List Int) (k : Int) (t : It) (h : Bool) : knB 1 is k t h = (decide (is.length = 0) && (decide (k = 0) && (!h && itB t))) := by
  simp [knB, brgB, Bool.and_comm]
theorem kn2 (is : List Int) (k : Int) (t : It) (h : Bool) : knB 2 is k t h = (decide (is.length = 0) && (plB k && (zeB t && !h))) := by
  simp [knB, askB]
theorem kn3 (is : List Int) (k : Int) (t : It) (h : Bool) : knB 3 is k t h = (decide (is.length = 0) && (plB k && (h && (itB t && decide (t.k = k)) || (!h && zeB t)))) := by
  cases h <;> simp [knB, telB]
theorem kn4 {n : Int} (h0 : ¬ n = 0) (h1 : ¬ n = 1) (h2 : ¬ n = 2) (h3 : ¬ n = 3) (is : List Int) (k : Int) (t : It) (h : Bool) : knB n is k t h = false := by
  simp [knB, h0, h1, h2, h3]

set_option maxHeartbeats 4000000 in
theorem rMsgMay_any {lo hi : Nat} {w : World} {v : Value} {is : List Int} (hv : RowI lo hi w v is) (n a b k tk tc tu tx : Int) (tg h : Bool) :
    Calls Try.prog 14 #[.agg #[.int .i64 n, .int .i64 a, .int .i64 b, v, .int .i64 k, .int .i64 tk, .int .i64 tc, .int .i64 tu, .int .i64 tx, .bool tg, .bool h]] w fun e w' =>
      e = .returned (.bool (mgB n a b is k ⟨tk, tc, tu, tx, tg⟩ h)) ∧ Below w.heap.size w w' := by
  have H0 := fun o => placesMay_any (hv.alloc o)
  obtain ⟨p, c, rfl, -⟩ := hv
  have t1 := trivial
  have ha := rPlaceMay_any a
  have hb := rPlaceMay_any b
  unfold mgB endB
  generalize plB a = r at *
  cases r with
  | false =>
    go_enter Try.func14, Try.ntmps14
    go_wp2_with (first
      | (go_at_call 25; refine (ha _).mono ?_; rintro e w' ⟨rfl, hw'⟩; subst w'))
    go_ret
    exact ⟨rfl, (Below.refl _ w).onA _⟩
  | true =>
    generalize plB b = s at *
    cases s with
    | false =>
      go_enter Try.func14, Try.ntmps14
      go_wp2_with (first
        | (go_at_call 25; clear t1; refine (ha _).mono ?_; rintro e w' ⟨rfl, hw'⟩; subst w')
        | (go_at_call 25; refine (hb _).mono ?_; rintro e w' ⟨rfl, hw'⟩; subst w'))
      go_ret
      exact ⟨rfl, (Below.refl _ w).onA _⟩
    | true =>
      by_cases he : a = b
      · subst he
        go_enter Try.func14, Try.ntmps14
        go_wp2_with (first
          | (go_at_call 25; clear t1; refine (ha _).mono ?_; rintro e w' ⟨rfl, hw'⟩; subst w')
          | (go_at_call 25; refine (hb _).mono ?_; rintro e w' ⟨rfl, hw'⟩; subst w'))
        go_ret
        exact ⟨by simp, (Below.refl _ w).onA _⟩
      · have hd : (a == b) = false := by simpa using he
        rw [decide_eq_true he]
        simp only [Bool.true_and]
        go_enter Try.func14, Try.ntmps14
        go_upto_region 3 with (first
          | (go_at_call 25; clear t1; refine (ha _).mono ?_; rintro e w' ⟨rfl, hw'⟩; subst w')
          | (go_at_call 25; refine (hb _).mono ?_; rintro e w' ⟨rfl, hw'⟩; subst w'))
        go_cut [3] from 21 to 34 (fun v3 wx => v3 = .bool (bareB k ⟨tk, tc, tu, tx, tg⟩ h) ∧ wx = w.alloc (.cells #[.int .i64 n, .int .i64 a, .int .i64 b, .slice p is.length c, .int .i64 k, .int .i64 tk, .int .i64 tc, .int .i64 tu, .int .i64 tx, .bool tg, .bool h] 48))
        case first =>
          by_cases hk : k = 0
          · subst hk
            by_cases hz : (⟨tk, tc, tu, tx, tg⟩ : It) = ⟨0, 0, 0, 0, false⟩
            · cases hz
              go_wp2
              go_meet
              exact ⟨by simp [bareB, zeB], rfl⟩
            · have e : Hid (zeB ⟨tk, tc, tu, tx, tg⟩ = false) := toHid (by simpa [zeB] using hz)
              rcases ne_first hz with hd | ⟨rfl, hd⟩ | ⟨rfl, rfl, hd⟩ | ⟨rfl, rfl, rfl, hd⟩ | ⟨rfl, rfl, rfl, rfl, rfl⟩
              all_goals
                clear hz
                go_wp2
                go_meet
                exact ⟨by simp [bareB, e.out], rfl⟩
          · have hd : (k == 0) = false := by simpa using hk
            go_wp2
            go_meet
            exact ⟨by simp [bareB, hk], rfl⟩
        case rest =>
          obtain ⟨rfl, rfl⟩ := hcut
          by_cases n0 : n = 0
          · subst n0
            have E := toHid (kn0 is k ⟨tk, tc, tu, tx, tg⟩ h)
            generalize bareB k ⟨tk, tc, tu, tx, tg⟩ h = r at E ⊢
            generalize plsB is = s at E H0
            cases r with
            | false =>
              go_wp2
              go_ret
              exact ⟨by rw [E.out]; simp, (Below.refl _ w).onA _⟩
            | true =>
              cases s with
              | false =>
                go_wp2_with (go_at_call 26; refine (H0 _).mono ?_; rintro e w' ⟨rfl, hw'⟩; subst w')
                go_ret
                exact ⟨by rw [E.out]; simp, (Below.refl _ w).onA _⟩
              | true =>
                by_cases hl : is.length ≤ 16
                · have hl1 : (is.length : Int) ≤ 16 := by omega
                  go_wp2_with (go_at_call 26; refine (H0 _).mono ?_; rintro e w' ⟨rfl, hw'⟩; subst w')
                  go_ret
                  exact ⟨by rw [E.out]; simp [hl], (Below.refl _ w).onA _⟩
                · have hl1 : ¬ (is.length : Int) ≤ 16 := by omega
                  have hl2 : decide ((is.length : Int) ≤ 16) = false := decide_eq_false hl1
                  go_wp2_with (go_at_call 26; refine (H0 _).mono ?_; rintro e w' ⟨rfl, hw'⟩; subst w')
                  go_ret
                  exact ⟨by rw [E.out]; simp [hl], (Below.refl _ w).onA _⟩
          · by_cases n1 : n = 1
            · subst n1
              have E := toHid (kn1 is k ⟨tk, tc, tu, tx, tg⟩ h)
              have hI := rIMay_any tk tc tu tx tg
              generalize itB ⟨tk, tc, tu, tx, tg⟩ = z at E hI
              by_cases hm : is.length = 0
              · have hm1 : (is.length : Int) = 0 := by omega
                have hm2 : ((is.length : Int) == 0) = true := by simpa using hm
                by_cases hk : k = 0
                · subst hk
                  cases h with
                  | true =>
                    go_wp2
                    go_ret
                    exact ⟨by rw [E.out]; simp, (Below.refl _ w).onA _⟩
                  | false =>
                    go_wp2_with (go_at_call 27; refine (hI _).mono ?_; rintro e w2 ⟨rfl, h2⟩)
                    go_ret
                    exact ⟨by rw [E.out]; simp [hm], ((Below.refl _ w).onA _).on h2⟩
                · have hd : (k == 0) = false := by simpa using hk
                  go_wp2
                  go_ret
                  exact ⟨by rw [E.out]; simp [hk], (Below.refl _ w).onA _⟩
              · have hm1 : ¬ (is.length : Int) = 0 := by omega
                have hm2 : ((is.length : Int) == 0) = false := by simpa using hm1
                go_wp2
                go_ret
                exact ⟨by rw [E.out]; simp [hm], (Below.refl _ w).onA _⟩
            · by_cases n2 : n = 2
              · subst n2
                have E := toHid (kn2 is k ⟨tk, tc, tu, tx, tg⟩ h)
                have hq := rPlaceMay_any k
                generalize plB k = s at E hq
                by_cases hm : is.length = 0
                · have hm1 : (is.length : Int) = 0 := by omega
                  have hm2 : ((is.length : Int) == 0) = true := by simpa using hm
                  cases s with
                  | false =>
                    go_wp2_with (go_at_call 25; refine (hq _).mono ?_; rintro e w' ⟨rfl, hw'⟩; subst w')
                    go_ret
                    exact ⟨by rw [E.out]; simp, (Below.refl _ w).onA _⟩
                  | true =>
                    by_cases hz : (⟨tk, tc, tu, tx, tg⟩ : It) = ⟨0, 0, 0, 0, false⟩
                    · cases hz
                      go_wp2_with (go_at_call 25; refine (hq _).mono ?_; rintro e w' ⟨rfl, hw'⟩; subst w')
                      go_ret
                      exact ⟨by rw [E.out]; simp [hm, zeB], (Below.refl _ w).onA _⟩
                    · have e : Hid (zeB ⟨tk, tc, tu, tx, tg⟩ = false) := toHid (by simpa [zeB] using hz)
                      rcases ne_first hz with hd | ⟨rfl, hd⟩ | ⟨rfl, rfl, hd⟩ | ⟨rfl, rfl, rfl, hd⟩ | ⟨rfl, rfl, rfl, rfl, rfl⟩
                      all_goals
                        clear hz
                        go_wp2_with (go_at_call 25; refine (hq _).mono ?_; rintro e w' ⟨rfl, hw'⟩; subst w')
                        go_ret
                        exact ⟨by rw [E.out, e.out]; simp, (Below.refl _ w).onA _⟩
                · have hm1 : ¬ (is.length : Int) = 0 := by omega
                  have hm2 : ((is.length : Int) == 0) = false := by simpa using hm1
                  go_wp2
                  go_ret
                  exact ⟨by rw [E.out]; simp [hm], (Below.refl _ w).onA _⟩
              · by_cases n3 : n = 3
                · subst n3
                  have E := toHid (kn3 is k ⟨tk, tc, tu, tx, tg⟩ h)
                  have hq := rPlaceMay_any k
                  have hI := rIMay_any tk tc tu tx tg
                  have B1 := toHid (fun (cs : Array Value) (t : TypeId) => Box.new w cs t)
                  generalize plB k = s at E hq
                  by_cases hm : is.length = 0
                  · have hm1 : (is.length : Int) = 0 := by omega
                    have hm2 : ((is.length : Int) == 0) = true := by simpa using hm
                    cases s with
                    | false =>
                      go_wp2_with (go_at_call 25; refine (hq _).mono ?_; rintro e w' ⟨rfl, hw'⟩; subst w')
                      go_ret
                      exact ⟨by rw [E.out]; simp, (Below.refl _ w).onA _⟩
                    | true =>
                      cases h with
                      | true =>
                        generalize itB ⟨tk, tc, tu, tx, tg⟩ = z at E hI
                        cases z with
                        | false =>
                          go_wp2_with (first
                            | (go_at_call 25; refine (hq _).mono ?_; rintro e w' ⟨rfl, hw'⟩; subst w')
                            | (go_at_call 27; refine (hI _).mono ?_; rintro e w2 ⟨rfl, h2⟩
                               obtain ⟨b1, b2, b3⟩ := (B1.out _ _).below h2))
                          go_ret
                          exact ⟨by rw [E.out]; simp, ((Below.refl _ w).onA _).on h2⟩
                        | true =>
                          by_cases hx : tk = k
                          · subst hx
                            go_wp2_with (first
                              | (go_at_call 25; refine (hq _).mono ?_; rintro e w' ⟨rfl, hw'⟩; subst w')
                              | (go_at_call 27; refine (hI _).mono ?_; rintro e w2 ⟨rfl, h2⟩
                                 obtain ⟨b1, b2, b3⟩ := (B1.out _ _).below h2))
                            go_ret
                            exact ⟨by rw [E.out]; simp [hm], ((Below.refl _ w).onA _).on h2⟩
                          · have hd : (tk == k) = false := by simpa using hx
                            go_wp2_with (first
                              | (go_at_call 25; refine (hq _).mono ?_; rintro e w' ⟨rfl, hw'⟩; subst w')
                              | (go_at_call 27; refine (hI _).mono ?_; rintro e w2 ⟨rfl, h2⟩
                                 obtain ⟨b1, b2, b3⟩ := (B1.out _ _).below h2))
                            go_ret
                            exact ⟨by rw [E.out]; simp [hx], ((Below.refl _ w).onA _).on h2⟩
                      | false =>
                        by_cases hz : (⟨tk, tc, tu, tx, tg⟩ : It) = ⟨0, 0, 0, 0, false⟩
                        · cases hz
                          go_wp2_with (go_at_call 25; refine (hq _).mono ?_; rintro e w' ⟨rfl, hw'⟩; subst w')
                          go_ret
                          exact ⟨by rw [E.out]; simp [hm, zeB], (Below.refl _ w).onA _⟩
                        · have e : Hid (zeB ⟨tk, tc, tu, tx, tg⟩ = false) := toHid (by simpa [zeB] using hz)
                          rcases ne_first hz with hd | ⟨rfl, hd⟩ | ⟨rfl, rfl, hd⟩ | ⟨rfl, rfl, rfl, hd⟩ | ⟨rfl, rfl, rfl, rfl, rfl⟩
                          all_goals
                            clear hz
                            go_wp2_with (go_at_call 25; refine (hq _).mono ?_; rintro e w' ⟨rfl, hw'⟩; subst w')
                            go_ret
                            exact ⟨by rw [E.out, e.out]; simp, (Below.refl _ w).onA _⟩
                  · have hm1 : ¬ (is.length : Int) = 0 := by omega
                    have hm2 : ((is.length : Int) == 0) = false := by simpa using hm1
                    go_wp2
                    go_ret
                    exact ⟨by rw [E.out]; simp [hm], (Below.refl _ w).onA _⟩
                · have E := toHid (kn4 n0 n1 n2 n3 is k ⟨tk, tc, tu, tx, tg⟩ h)
                  go_wp2
                  go_ret
                  exact ⟨by rw [E.out]; rfl, (Below.refl _ w).onA _⟩

end Go.Proofs.Ytghamcomjfholaa
