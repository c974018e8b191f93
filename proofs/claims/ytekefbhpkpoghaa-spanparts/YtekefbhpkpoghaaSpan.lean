
/-
  Contracts of package span: what it returns, and that no old memory has turned.
-/
import Derived.Test.YtekefbhpkpoghaaStoreB
import Derived.Test.YtekefbhpkpoghaaStorePut
import Derived.Test.YtekefbhpkpoghaaSpanMath
import Derived.Test.YtekefbhpkpoghaaRowBox
namespace Go.Proofs.Ytekefbhpkpoghaa
open Go.ChangeShapes Go.WideShapes Go.ChangeAt Go.RowKit

theorem arePlaces_any (a b : Int) (w : World) :
    Calls Try.prog 18 #[.int .i64 a, .int .i64 b] w fun e w' => e = .returned (.bool (plB a && plB b)) ∧ w' = w := by
  by_cases h : plB a = true ∧ plB b = true
  · obtain ⟨ha, hb⟩ := h
    rw [ha, hb]
    go_enter Try.func18, Try.ntmps18
    go_wp2_with (first | (go_at_call 25; refine (distance_yes _ _ _ ha hb).mono ?_; rintro e w' ⟨rfl, hw'⟩; subst w'))
    go_ret
    exact ⟨rfl, rfl⟩
  · have h2 : plB a = false ∨ plB b = false := by
      rcases Bool.eq_false_or_eq_true (plB a) with ha | ha
      · rcases Bool.eq_false_or_eq_true (plB b) with hb | hb
        · exact absurd ⟨ha, hb⟩ h
        · exact .inr hb
      · exact .inl ha
    have e : (plB a && plB b) = false := by rcases h2 with h2 | h2 <;> simp [h2]
    rw [e]
    clear e h
    go_enter Try.func18, Try.ntmps18
    go_wp2_with (first | (go_at_call 25; refine (distance_no _ _ _ h2).mono ?_; rintro e w' ⟨rfl, hw'⟩; subst w'))
    go_ret
    exact ⟨rfl, rfl⟩

set_option maxHeartbeats 4000000 in
theorem keep_any {lo hi : Nat} {w : World} {v : Value} {xs : List It} (hx : RowT lo hi w v xs) (hh : hi ≤ w.heap.size) (a b : Int) (hval : Val xs) (hlen : xs.length ≤ 16) (ha : plB a = true) (hb : plB b = true) :
    Calls Try.prog 19 #[v, .int .i64 a, .int .i64 b] w fun e w' => ∃ o, e = .returned o ∧ w'.ownsRow w.heap.size 37 5 o (xs.filter (spP a b)).length ((xs.filter (spP a b)).flatMap ItV) ∧ Below w.heap.size w w' := by
  obtain ⟨p, cc, rfl, hn, hp⟩ := hx.its hh
  go_enter Try.func19, Try.ntmps19
  go_wp2
  go_loopw [7, 14] (fun o i wr => ∃ (m : Nat), m ≤ xs.length ∧ i = .int .i64 m ∧ wr.ownsRow w.heap.size 37 5 o ((xs.take m).filter (spP a b)).length (((xs.take m).filter (spP a b)).flatMap ItV) ∧ Below w.heap.size w wr) (fun _ i _ => xs.length - (intOf i).toNat)
  case atStart => exact ⟨0, Nat.zero_le _, rfl, ⟨rfl, .inl ⟨rfl, rfl⟩⟩, Below.refl _ _⟩
  case round =>
    obtain ⟨m, hm, rfl, own, hbr⟩ := hrel
    by_cases hlt : m < xs.length
    · have hlt' : (m : Int) < (xs.length : Int) := by omega
      have hnx := filter_next (p := spP a b) hlt
      have hol := filter_take_len (xs := xs) (p := spP a b) m
      have hpl : plB xs[m].k = true := itB_place (hval _ (List.getElem_mem hlt))
      obtain ⟨bb, off, rfl, _, hbb, hc⟩ := hp (by omega)
      have it1 := (hc m hlt).below hbr hbb
      rw [getD_at _ _ hlt] at it1
      obtain ⟨c1, c2, c3, c4, c5⟩ := it1
      generalize (xs.take m).filter (spP a b) = out at own hnx hol
      by_cases hin : spP a b xs[m] = true
      · rw [if_pos hin] at hnx
        have hin2 : inB a xs[m].k b = true := hin
        replace hnx := toHid hnx
        clear hc hp hin
        generalize xs[m] = z at *
        obtain ⟨zk, zc, zu, zx, zg⟩ := z
        dsimp only at c1 c2 c3 c4 c5 hpl hin2
        go_wp2_with (first
          | (go_at_call 26; refine (within_yes _ _ _ _ ha hpl hb).mono ?_; rintro e w' ⟨rfl, hw'⟩; subst w')
          | (at_builtin; refine app_its rfl (.tmp 27) (.tmp 29) rfl w.heap.size _ out.length out rfl ((own.alloc _).alloc _) ⟨wr.heap.size + 1, 0, none⟩ 1 1 [⟨zk, zc, zu, zx, zg⟩] rfl rfl (fun j hj => ?_) (by omega) (by have := hbr.size; simp; omega) ?_; · (rw [add_plain, Nat.zero_add]; refine ((Box.newAt _ _ (by simp)).2.1 j).trans ?_; simp [ItV])))
        intro v' w4 hown4 hgr4 hbel4
        go_wp2
        go_roundw
        case rel => exact ⟨m + 1, by omega, by go_num, by rw [hnx.out]; simpa [Nat.add_assoc] using hown4, ((hbr.onA _).onA _).trans hbel4⟩
        case measure => simp [intOf]; omega
      · rw [if_neg hin, List.append_nil] at hnx
        have hin2 : inB a xs[m].k b = false := Bool.eq_false_iff.2 hin
        replace hnx := toHid hnx
        clear hc hp hin
        generalize xs[m] = z at *
        obtain ⟨zk, zc, zu, zx, zg⟩ := z
        dsimp only at c1 c2 c3 c4 c5 hpl hin2
        go_wp2_with (first
          | (go_at_call 26; refine (within_yes _ _ _ _ ha hpl hb).mono ?_; rintro e w' ⟨rfl, hw'⟩; subst w'))
        go_roundw
        case rel => exact ⟨m + 1, by omega, by go_num, by rw [hnx.out]; exact own.alloc _, hbr.onA _⟩
        case measure => simp [intOf]; omega
    · have hm2 : m = xs.length := by omega
      subst hm2
      rw [List.take_length] at own
      go_wp2
      go_ret
      exact ⟨_, rfl, own, hbr⟩

theorem sOf_any {lo hi : Nat} {w : World} {v : Value} {xs : List It} (hx : RowT lo hi w v xs) (hh : hi ≤ w.heap.size) (a b : Int) :
    Calls Try.prog 8 #[v, .int .i64 a, .int .i64 b] w fun e w' => ∃ o, e = .returned (.tuple #[o, .int .i64 (spE xs a b)]) ∧ RowT w.heap.size w'.heap.size w' o (spL xs a b) ∧ Below w.heap.size w w' := by
  rcases Bool.eq_false_or_eq_true (stB xs) with hs | hs
  · rcases Bool.eq_false_or_eq_true (plB a && plB b) with hab | hab
    · obtain ⟨ha, hb⟩ := Bool.and_eq_true_iff.1 hab
      rw [(sp_yes hs ha hb).1, (sp_yes hs ha hb).2]
      obtain ⟨hval, hsrt, hlen⟩ := stB_iff.1 hs
      have HM := sMay_is hx hh hs
      have HK : Hid (∀ w', Below w.heap.size w w' → _) := fun w' hw => keep_any (hx.below hw hh) (Nat.le_trans hh hw.size) a b hval hlen ha hb
      obtain ⟨p, cc, rfl, hn, -⟩ := hx.its hh
      generalize xs.filter (spP a b) = ys at HK
      clear hval hsrt hlen hs ha hb
      go_enter Try.func8, Try.ntmps8
      go_wp2_with (first
        | (go_at_call 17; refine HM.mono ?_; rintro e w1 ⟨rfl, h1⟩)
        | (go_at_call 18; refine (arePlaces_any _ _ _).mono ?_; rintro e w' ⟨rfl, hw'⟩; subst w')
        | (go_at_call 19; refine (HK.out _ h1).mono ?_; rintro e w2 ⟨o2, rfl, own, h2⟩))
      go_ret2
      exact ⟨o2, rfl, (RowC.of_owns (by decide) ItV_len own).wide h1.size (Nat.le_refl _), h1.on h2⟩
    · have hno : plB a = false ∨ plB b = false := by
        rcases Bool.eq_false_or_eq_true (plB a) with ha | ha
        · rw [ha, Bool.true_and] at hab; exact .inr hab
        · exact .inl ha
      rw [(sp_no (xs := xs) (.inr hno)).1, (sp_no (xs := xs) (.inr hno)).2]
      have HM := sMay_is hx hh hs
      obtain ⟨p, cc, rfl, hn, -⟩ := hx.its hh
      clear hno
      go_enter Try.func8, Try.ntmps8
      go_wp2_with (first
        | (go_at_call 17; refine HM.mono ?_; rintro e w1 ⟨rfl, h1⟩)
        | (go_at_call 18; refine (arePlaces_any _ _ _).mono ?_; rintro e w' ⟨rfl, hw'⟩; subst w'))
      go_ret2
      exact ⟨_, rfl, RowC.nil0, h1⟩
  · rw [(sp_no (a := a) (b := b) (.inl hs)).1, (sp_no (a := a) (b := b) (.inl hs)).2]
    have HM := sMay_is hx hh hs
    obtain ⟨p, cc, rfl, hn, -⟩ := hx.its hh
    go_enter Try.func8, Try.ntmps8
    go_wp2_with (first
      | (go_at_call 17; refine HM.mono ?_; rintro e w1 ⟨rfl, h1⟩))
    go_ret2
    exact ⟨_, rfl, RowC.nil0, h1⟩

theorem sOf_at {lo hi : Nat} {w : World} {v : Value} {xs : List It} (hx : RowT lo hi w v xs) (hh : hi ≤ w.heap.size) (a b : Int) {ys : List It} {err : Int} (hL : spL xs a b = ys) (hE : spE xs a b = err) :
    Calls Try.prog 8 #[v, .int .i64 a, .int .i64 b] w fun e w' => ∃ o, e = .returned (.tuple #[o, .int .i64 err]) ∧ RowT w.heap.size w'.heap.size w' o ys ∧ Below w.heap.size w w' := by
  subst hL hE
  exact sOf_any hx hh a b

end Go.Proofs.Ytekefbhpkpoghaa
